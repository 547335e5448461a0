import Derived.Test.YtmhipgompplkdaaGreatDoorWT36
import Derived.Test.YtmhipgompplkdaaGreatDoorWT40
import Derived.Test.YtmhipgompplkdaaGreatDoorWT44
import Derived.Test.YtmhipgompplkdaaGreatDoorWT46
import Derived.Test.YtmhipgompplkdaaGreatDoorWT30
import Derived.Test.YtmhipgompplkdaaGreatDoorWT48
import Derived.Test.YtmhipgompplkdaaGreatDoorWT38
namespace Go.Proofs.YtmhipgompplkdaaGreatDoor
open Go.RowKit Go.Shelf Go.Lib
theorem of_meets {es : Nat → Addr} {fs : Tf.Fs} {l : List Ru} {out : List UInt8} {w : World} {s : List UInt8} {ev : Value} {f : Nat × Int} (hO : OfTells es fs l out w s ev) (hF : OfFault l out f) :
    (f.1 ≠ 0 ∧ s = [] ∧ ErrV w es ev f) ∨ (f = (0, -1) ∧ (Ru.fault l).1 = 0 ∧ (∃ x ∈ l, x.out = out) ∧ (Ru.order l (Bf.need l [out])).isSome = true ∧ s = (Bf.want Af.actO fs l out).1 ∧ ev = erOf es (Bf.want Af.actO fs l out).2) := by
  rcases hO with ⟨a1, a2, a3⟩ | ⟨a1, a2, a3, a4⟩ | ⟨a1, a2, a3, a4, a5⟩ | ⟨a1, a2, a3, a4, a5⟩ <;> rcases hF with ⟨b1, b2⟩ | ⟨b1, b2, b3⟩ | ⟨b1, b2, b3, b4⟩ | ⟨b1, b2, b3, b4⟩
  · exact .inl ⟨by rw [b2]; exact a1, a2, by rw [b2]; exact a3⟩
  · exact absurd b1 a1
  · exact absurd b1 a1
  · exact absurd b1 a1
  · exact absurd a1 b1
  · exact .inl ⟨by rw [b3]; simp, a3, by rw [b3, a4]; exact ErrV.bare (by omega)⟩
  · obtain ⟨x, hx, e⟩ := b2
    exact absurd e (a2 x hx)
  · obtain ⟨x, hx, e⟩ := b2
    exact absurd e (a2 x hx)
  · exact absurd a1 b1
  · obtain ⟨x, hx, e⟩ := a2
    exact absurd e (b2 x hx)
  · exact .inl ⟨by rw [b4]; simp, a4, by rw [b4, a5]; exact ErrV.bare (by omega)⟩
  · rw [a3] at b3; cases b3
  · exact absurd a1 b1
  · obtain ⟨x, hx, e⟩ := a2
    exact absurd e (b2 x hx)
  · rw [b3] at a3; cases a3
  · exact .inr ⟨b4, a1, a2, a3, a4, a5⟩
set_option maxRecDepth 100000 in
set_option maxHeartbeats 32000000 in
theorem WantTells_calls {es : Nat → Addr} {W : World} (hW : WantW W es) (hE : E12 W es) (vf : Value) (fl : Tf.Fs) (hF : FIRow W vf fl) (vl : Value) (l : List Ru) (hR : RRow W vl l) (out : List UInt8) :
    Calls Tryz.prog 12 #[vf, vl, .string (ba out)] W fun e w' => e = .returned (.bool true) ∧ Below W.heap.size W w' := by
  have HW := hid1 hW
  have HE := hid1 hE
  have HPw := hid1 hW.g.s.a.aw.pow
  have HWd := hid1 (wanted_calls hW hE.terr)
  have HLf := hid1 fun V (g : Below W.heap.size W V) => longFiles_calls (w := V) vf fl (hF.below g)
  have HLr := hid1 fun V (g : Below W.heap.size W V) => LongRules_any (w := V) vl l 12 (by omega) (hR.below g)
  have HFt := hid1 fun V (g : Below W.heap.size W V) (hs : ShortF fl) => fileTree_calls (w := V) (hE.terr.below g) vf fl (hF.below g) hs
  have HOr := hid1 fun V (g : Below W.heap.size W V) (hl : l.length ≤ 1000) (h12 : ∀ x ∈ l, x.ins.length ≤ 12) => OwnRules_calls (w := V) vl l hl (hR.below g) h12
  have HWf := hid1 fun V (g : Below W.heap.size W V) (hl : l.length ≤ 1000) (hS : ∀ x ∈ l, x.Small) => WantFault_calls (w := V) vl l (hR.below g) hl hS out
  have HSf := hid1 fun V (g : Below W.heap.size W V) (hl : l.length ≤ 1000) (hS : ∀ x ∈ l, x.Small) => SheetFault_calls (w := V) vl l (hR.below g) hl hS
  have HOo := hid1 fun V (g : Below W.heap.size W V) (hl : l.length ≤ 1000) (hI : ∀ x ∈ l, x.ins.length ≤ 1000000) gs cs sm hs => OrderOf_calls (w := V) vl l (hR.below g) hl hI gs cs sm hs
  have HRr := hid1 hR
  have HAct : Hid (ActTells Af.actO) := hid1 fun V nm wd v ls h1 h2 h3 => ActOf_calls nm wd h2 v ls h1 h3
  obtain ⟨pf, cf, rfl, -⟩ := hF
  obtain ⟨pl, cl, rfl, hcl, hnl, hlc⟩ := hR
  have HLc := hid1 hlc
  clear hW hE hcl hnl hlc
  go_enter Tryz.func12, Tryz.ntmps12
  go_wp2_with fail
  refine HWd.out.mono ?_
  rintro e w1 ⟨rfl, g1⟩
  have HL1 := hid1 (HLf.out w1 g1)
  clear HWd HLf
  go_wp2_with fail
  refine HL1.out.mono ?_
  rintro e w2 ⟨b, rfl, rfl, hb⟩
  clear HL1
  cases b with
  | true =>
    clear hb HFt HOr HLr HWf HSf HOo HRr HLc
    go_wp2
    go_ret
    exact ⟨rfl, g1⟩
  | false =>
  have hs := hb.resolve_left (by simp)
  have HL2 := hid1 (HLr.out w2 g1)
  clear HLr hb
  go_wp2_with fail
  refine HL2.out.mono ?_
  rintro e w3 ⟨r, rfl, rfl, hr⟩
  clear HL2
  rcases hr with rfl | ⟨rfl, hlen, hsm⟩
  · clear HFt HOr HWf HSf HOo HRr HLc
    go_wp2
    go_ret
    exact ⟨rfl, g1⟩
  by_cases ho : 100 < out.length
  · have zo : (100 : Int) < (out.length : Int) := by omega
    clear HFt HOr HWf HSf HOo HRr HLc
    go_wp2
    go_ret
    exact ⟨rfl, g1⟩
  have zo : (out.length : Int) ≤ 100 := by omega
  have HF3 := hid1 (HFt.out w3 g1 hs)
  have HSm := hid1 hsm
  have hl41 : l.length ≤ 41 := by omega
  have HSh := hid1 hs
  clear HFt hs hsm hlen
  go_wp2_with fail
  refine HF3.out.mono ?_
  rintro e w4 ⟨T, M, oT, uT, rfl, hBo, g4⟩
  have G4 := below_then g1 g4
  have HBo := hid1 hBo
  have hfsl : ∀ f ∈ Tf.taken fl, f.1.length ≤ 1000 := fun f hf => by
    have := HSh.out.path f (Tf.taken_mem _ f hf)
    omega
  have HFl := hid1 hfsl
  have HO4 := hid1 (HOr.out w4 G4 (by omega) fun x hx => (HSm.out x hx).many)
  have HBy : Hid (∀ x b, Tf.get (Tf.taken fl) x = some b → b.length ≤ 2000) := hid1 fun x b hb => (hBo.well.each _ (Bf.get_mem hb)).2
  clear HF3 hBo g4 g1 hfsl HSh
  generalize Tf.taken fl = fs at *
  go_wp2_with fail
  refine HO4.out.mono ?_
  rintro e w5 ⟨v5, rfl, hR5, g5⟩
  have G5 := below_then G4 g5
  have HBo5 := hid1 (HBo.out.below g5)
  have HOf5 := hid1 (wOf_calls (HW.out.below G5) HBo5.out.t HBy.out v5 l hR5 (by omega) HSm.out out (by omega))
  obtain ⟨p5, c5, rfl, -⟩ := hR5
  clear HO4 HBo g5 G4
  go_wp2_with fail
  refine HOf5.out.mono ?_
  rintro e w6 ⟨s, ev, rfl, g6, hT6⟩
  have G6 := below_then G5 g6
  have HBo6 := hid1 (HBo5.out.below g6)
  have HT6 := hid1 hT6
  have HWf6 := hid1 (HWf.out w6 G6 (by omega) HSm.out)
  clear HOf5 HBo5 g6 G5 hT6 HWf
  have hevs : (∃ t u, ev = .iface t u) ∨ ev = .nilIface := OfTells.val HT6.out
  go_wp2_with fail
  refine HWf6.out.mono ?_
  rintro e w7 ⟨f, rfl, hF7, g7⟩
  have G7 := below_then G6 g7
  have gA : Below w7.heap.size w7 (w7.alloc (.cells #[.int .i64 (f.1 : Nat), .int .i64 f.2] 75)) := (Below.refl _ w7).alloc (Nat.le_refl _) _
  have G8 := below_then G7 gA
  have g68 := below_then g7 gA
  have HBo8 := hid1 (HBo6.out.below g68)
  have b0 : (w7.alloc (.cells #[.int .i64 (f.1 : Nat), .int .i64 f.2] 75)).cell? ⟨w7.heap.size, 0, none⟩ = some (.int .i64 (f.1 : Nat)) := cell_of_row (j := 0) (row_newW w7 _) rfl
  have b1 : (w7.alloc (.cells #[.int .i64 (f.1 : Nat), .int .i64 f.2] 75)).cell? ⟨w7.heap.size, 1, none⟩ = some (.int .i64 f.2) := cell_of_row (j := 1) (row_newW w7 _) rfl
  have hM := of_meets HT6.out hF7
  clear HWf6 hF7 HBo6 HT6 G6 G7
  rcases hM with ⟨hf0, rfl, hEv⟩ | ⟨rfl, hft, hex, hso, rfl, rfl⟩
  · have HFa := hid1 (faulted2_calls (HE.out.below G8) ev f (hEv.below g68))
    obtain ⟨fc, fa⟩ := f
    have fpos : (0 : Int) < (fc : Int) := by have : fc ≠ 0 := hf0; omega
    clear hf0 hEv
    simp only at HFa G8 HBo8 b0 b1 gA g68
    generalize hw8 : w7.alloc (.cells #[.int .i64 (fc : Nat), .int .i64 fa] 75) = w8 at *
    rcases hevs with ⟨et, eu, rfl⟩ | rfl
    · go_wp2_with fail
      refine HFa.out.mono ?_
      rintro e w9 ⟨rfl, g9⟩
      have G9 := below_then G8 g9
      have HBo9 := hid1 (HBo8.out.below g9)
      clear HFa HBo8 g9 b0 b1 gA g68 G8 hw8
      have HO9 := hid1 (HOr.out w9 G9 (by omega) fun x hx => (HSm.out x hx).many)
      clear HOr
      go_wp2_with fail
      refine HO9.out.mono ?_
      rintro e w10 ⟨v10, rfl, hR10, g10⟩
      have G10 := below_then G9 g10
      have HBo10 := hid1 (HBo9.out.below g10)
      have HAl := hid1 (wAll_calls (HW.out.below G10) (HE.out.below G10).terr HBo10.out.t HBo10.out.well HFl.out v10 l hR10 (by omega) HSm.out)
      obtain ⟨p10, c10, rfl, -⟩ := hR10
      clear HO9 HBo9 g10 G9
      go_wp2_with fail
      refine HAl.out.mono ?_
      rintro e w11 ⟨av, ev2, rfl, g11, hA11⟩
      have G11 := below_then G10 g11
      have HBo11 := hid1 (HBo10.out.below g11)
      have HS11 := hid1 (HSf.out w11 G11 (by omega) HSm.out)
      have hz10 := G10.size
      clear HAl HBo10 g11 HSf
      rcases hA11 with ⟨hf, rfl, hEv2⟩ | ⟨hf, hnone, rfl, rfl⟩ | ⟨hf, ord, ab, oo, hsome, rfl, rfl, hTa⟩
      · have HEv := hid1 hEv2
        obtain ⟨t2, x2, rfl⟩ := hEv2.some hf
        obtain ⟨fc2, fa2, hfe⟩ : ∃ fc2 fa2, Ru.fault l = (fc2, fa2) := ⟨_, _, rfl⟩
        rw [hfe] at HS11 HEv hf
        have fpos2 : (0 : Int) < (fc2 : Int) := by have : fc2 ≠ 0 := hf; omega
        have fne2 : ((fc2 : Int) == 0) = false := by simp; omega
        clear hfe hf hEv2 HOo HLc HBo11
        simp only at HS11
        go_wp2_with fail
        refine HS11.out.mono ?_
        rintro e w12 ⟨rfl, g12⟩
        have gB : Below w12.heap.size w12 (w12.alloc (.cells #[.int .i64 (fc2 : Nat), .int .i64 fa2] 75)) := (Below.refl _ w12).alloc (Nat.le_refl _) _
        have G13 := below_then G11 (below_then g12 gB)
        have HFb := hid1 fun V (gV : Below (w12.alloc (.cells #[.int .i64 (fc2 : Nat), .int .i64 fa2] 75)).heap.size (w12.alloc (.cells #[.int .i64 (fc2 : Nat), .int .i64 fa2] 75)) V) => faulted2_calls (HE.out.below (below_then G13 gV)) (.iface t2 x2) (fc2, fa2) (HEv.out.below (below_then (below_then g12 gB) gV))
        have d0 : (w12.alloc (.cells #[.int .i64 (fc2 : Nat), .int .i64 fa2] 75)).cell? ⟨w12.heap.size, 0, none⟩ = some (.int .i64 (fc2 : Nat)) := cell_of_row (j := 0) (row_newW w12 _) rfl
        have d1 : (w12.alloc (.cells #[.int .i64 (fc2 : Nat), .int .i64 fa2] 75)).cell? ⟨w12.heap.size, 1, none⟩ = some (.int .i64 fa2) := cell_of_row (j := 1) (row_newW w12 _) rfl
        clear HS11 g12 gB
        generalize hw13 : w12.alloc (.cells #[.int .i64 (fc2 : Nat), .int .i64 fa2] 75) = w13 at *
        have gC : Below w13.heap.size w13 (w13.alloc (.cells #[] 3)) := (Below.refl _ w13).alloc (Nat.le_refl _) _
        have HF14 := hid1 (HFb.out _ gC)
        have G14 := below_then G13 gC
        have dd0 := cell_below' d0 gC
        have dd1 := cell_below' d1 gC
        clear HFb
        go_wp2_with fail
        refine HF14.out.mono ?_
        rintro e w15 ⟨rfl, g15⟩
        have G15 := below_then G14 g15
        clear HF14
        go_wp2
        go_ret
        exact ⟨rfl, G15⟩
      · have hfz := Ru.fault_zero hf
        rw [hfz] at HS11
        replace HS11 : Hid (Calls Tryz.prog 45 #[.slice pl l.length cl] w11 fun e w' => e = .returned (.agg #[.int .i64 0, .int .i64 (-1)]) ∧ Below w11.heap.size w11 w') := hid1 HS11.out
        obtain ⟨t9, x9, e9⟩ : ∃ t x, erOf es 9 = .iface t x := ⟨_, _, rfl⟩
        have HEv : Hid (∀ V, ErrV V es (.iface t9 x9) (9, -1)) := hid1 fun V => by rw [← e9]; exact ErrV.bare (by omega)
        have HNn := hid1 hnone
        rw [e9]
        clear hfz hf e9 hnone HLc HBo11
        go_wp2_with fail
        refine HS11.out.mono ?_
        rintro e w12 ⟨rfl, g12⟩
        have gB : Below w12.heap.size w12 (w12.alloc (.cells #[.int .i64 0, .int .i64 (-1)] 75)) := (Below.refl _ w12).alloc (Nat.le_refl _) _
        have G13 := below_then G11 (below_then g12 gB)
        have HR13 := hid1 (row_newW w12 (.cells #[.int .i64 0, .int .i64 (-1)] 75))
        have z12 := (below_then G11 g12).size
        clear HS11 g12 gB
        generalize hw13 : w12.alloc (.cells #[.int .i64 0, .int .i64 (-1)] 75) = w13 at *
        have gC : Below w13.heap.size w13 (w13.alloc (.cells #[] 3)) := (Below.refl _ w13).alloc (Nat.le_refl _) _
        have G14 := below_then G13 gC
        have r14 := row_below HR13.out gC
        have HR14 := hid1 r14
        have d0 := cell_of_row (j := 0) r14 rfl
        have HAo := hid1 (AllOf_calls l.length (by omega) (w13.alloc (.cells #[] 3)))
        clear HR13 r14 G13
        generalize hw14 : w13.alloc (.cells #[] 3) = w14 at *
        clear gC
        go_wp2_with fail
        refine HAo.out.mono ?_
        rintro e w15 ⟨go15, rfl, hOw, g15⟩
        have G15 := below_then G14 g15
        have HO15 := hid1 (HOo.out w15 G15 (by omega) (fun x hx => by have := (HSm.out x hx).many; omega) go15 l.length (fun _ => true) fun j hj => hOw.cell hj)
        clear HAo hOw HOo
        go_wp2_with fail
        refine HO15.out.mono ?_
        rintro e w16 ⟨u16, b16, rfl, g16, h16⟩
        have G16 := below_then G15 g16
        have HB16 := hid1 (rBare_calls w16 9)
        rcases h16 with ⟨rfl, rfl, -⟩ | ⟨oq, -, hoq, -⟩
        · clear HO15
          go_wp2_with fail
          refine HB16.out.mono ?_
          rintro e w17 ⟨rfl, g17⟩
          have G17 := below_then G16 g17
          have g14 := below_then (below_then g15 g16) g17
          have rr := row_below HR14.out g14
          have y0 := cell_of_row (j := 0) rr rfl
          have f0 : w17.frozen? ⟨w12.heap.size, 0, none⟩ = false := by simp [World.frozen?, rr]
          obtain ⟨w17', hw17⟩ : ∃ w17', w17.setCell ⟨w12.heap.size, 0, none⟩ (.int .i64 9) = w17' := ⟨_, rfl⟩
          have rr' : w17'.heap[w12.heap.size]? = some (.cells #[.int .i64 9, .int .i64 (-1)] 75) := by
            rw [← hw17, heap_setCell_same w17 w12.heap.size 0 _ _ (.int .i64 9) rr]; rfl
          have y1 := cell_of_row (j := 1) rr' rfl
          have f1 : w17'.frozen? ⟨w12.heap.size, 1, none⟩ = false := by simp [World.frozen?, rr']
          obtain ⟨w18, hw18⟩ : ∃ w18, w17'.setCell ⟨w12.heap.size, 1, none⟩ (.int .i64 (-1)) = w18 := ⟨_, rfl⟩
          have r18 : w18.heap[w12.heap.size]? = some (.cells #[.int .i64 9, .int .i64 (-1)] 75) := by
            rw [← hw18, heap_setCell_same w17' w12.heap.size 1 _ _ (.int .i64 (-1)) rr']; rfl
          have q0 := cell_of_row (j := 0) r18 rfl
          have q1 := cell_of_row (j := 1) r18 rfl
          have G18 : Below W.heap.size W w18 := by
            rw [← hw18, ← hw17]
            exact (G17.setCell (p := ⟨w12.heap.size, 0, none⟩) z12 _).setCell (p := ⟨w12.heap.size, 1, none⟩) z12 _
          have HF18 : Hid (Calls Tryz.prog 70 #[.iface t9 x9, .agg #[.int .i64 9, .int .i64 (-1)]] w18 fun e w' => e = .returned (.bool true) ∧ Below w18.heap.size w18 w') := hid1 (faulted2_calls (HE.out.below G18) (.iface t9 x9) (9, -1) (HEv.out w18))
          clear HB16 HR14 rr rr' r18 g14 g15 g16 g17 G14 G15 G16 G17 hw13 hw14 d0
          go_wp2_with fail
          refine HF18.out.mono ?_
          rintro e w19 ⟨rfl, g19⟩
          have G19 := below_then G18 g19
          clear HF18
          go_wp2
          go_ret
          exact ⟨rfl, G19⟩
        · have := HNn.out
          rw [show Ru.order l allB1 = Ru.order l (fun _ => true) from rfl, hoq] at this
          cases this
      · have hfz := Ru.fault_zero hf
        rw [hfz] at HS11
        replace HS11 : Hid (Calls Tryz.prog 45 #[.slice pl l.length cl] w11 fun e w' => e = .returned (.agg #[.int .i64 0, .int .i64 (-1)]) ∧ Below w11.heap.size w11 w') := hid1 HS11.out
        obtain ⟨h40, hAp⟩ := Ru.fault_ok hf
        obtain ⟨ht, hall⟩ := Ru.order_some hsome
        obtain ⟨hnd, hlt⟩ := Ru.order_nodup hsome
        have hol : ord.length ≤ l.length := Bf.order_len hnd hlt
        have HSo := hid1 hsome
        have HLt := hid1 hlt
        have HTa := hid1 hTa
        have HTd : Hid (∀ i ∈ ord, ∀ hi : i < l.length, WantTold fs l l[i].out) := hid1 fun i hi hil => WantOf_told HAct.out (by have := HBo11.out.well.few; omega) HBo11.out.well.rises HBy.out h40 HSm.out ht hnd hlt l[i].out fun j hj => by
          obtain ⟨hk, ek⟩ := Bf.mkr_of hj
          have := hAp j i hk hil ek
          rw [this]; exact hi
        clear hfz hf hsome hTa ht hall hnd hlt hAp
        go_wp2_with fail
        refine HS11.out.mono ?_
        rintro e w12 ⟨rfl, g12⟩
        have gB : Below w12.heap.size w12 (w12.alloc (.cells #[.int .i64 0, .int .i64 (-1)] 75)) := (Below.refl _ w12).alloc (Nat.le_refl _) _
        have g13 := below_then g12 gB
        have HR13 := hid1 (row_newW w12 (.cells #[.int .i64 0, .int .i64 (-1)] 75))
        clear HS11 g12 gB
        generalize hw13 : w12.alloc (.cells #[.int .i64 0, .int .i64 (-1)] 75) = w13 at *
        have gC : Below w13.heap.size w13 (w13.alloc (.cells #[] 3)) := (Below.refl _ w13).alloc (Nat.le_refl _) _
        have g14 := below_then g13 gC
        have r14 := row_below HR13.out gC
        have HR14 := hid1 r14
        have d0 := cell_of_row (j := 0) r14 rfl
        have HAo := hid1 (AllOf_calls l.length (by omega) (w13.alloc (.cells #[] 3)))
        clear HR13 r14 g13
        generalize hw14 : w13.alloc (.cells #[] 3) = w14 at *
        clear gC
        go_wp2_with fail
        refine HAo.out.mono ?_
        rintro e w15 ⟨go15, rfl, hOw, g15⟩
        have G15 := below_then G11 (below_then g14 g15)
        have HO15 := hid1 (HOo.out w15 G15 (by omega) (fun x hx => by have := (HSm.out x hx).many; omega) go15 l.length (fun _ => true) fun j hj => hOw.cell hj)
        clear HAo hOw HOo
        go_wp2_with fail
        refine HO15.out.mono ?_
        rintro e w16 ⟨u16, b16, rfl, g16, h16⟩
        have g1416 := below_then g15 g16
        have d16 := cell_of_row (j := 0) (row_below HR14.out g1416) rfl
        have g1116 := below_then g14 g1416
        have G16 := below_then G11 g1116
        rcases h16 with ⟨-, -, hoq⟩ | ⟨oq, rfl, hoq, hrq, -, -⟩
        · have := HSo.out
          rw [show Ru.order l allB1 = Ru.order l (fun _ => true) from rfl, hoq] at this
          cases this
        · obtain rfl : ord = oq := by
            have := HSo.out
            rw [show Ru.order l allB1 = Ru.order l (fun _ => true) from rfl, hoq] at this
            exact (Option.some.inj this).symm
          have HBo16 := hid1 (HBo11.out.below g1116)
          have HTa16 := hid1 (HTa.out.below g1116)
          have HCp := hid1 (CopyTree_calls HBo16.out.m (by have := HBo16.out.well.few; omega))
          obtain ⟨po, co, rfl, hoc⟩ := hrq.ni
          have HOc := hid1 hoc
          have zo : (ord.length : Int) ≤ 40 := by omega
          have zl : (l.length : Int) ≤ 40 := by omega
          clear HO15 HR14 g14 g15 g16 g1416 g1116 G15 hrq hoc hoq HSo HBo11 HTa hw13 hw14 d0
          go_wp2_with fail
          refine HCp.out.mono ?_
          rintro e w17 ⟨tv, rfl, hX17, g17⟩
          have HX17 := hid1 hX17
          clear HCp hX17 d16
          go_wp2
          go_loopw [20] (fun iv wr => ∃ (k : Nat) (v : Value), k ≤ ord.length ∧ iv = .int .i64 k ∧ RTreeAt w16.heap.size wr w16.heap.size (Bf.allW fs l (ord.take k)) v ∧ Below w16.heap.size w16 wr) (fun iv _ => ord.length - (intOf iv).toNat)
          case atStart => exact ⟨0, tv, Nat.zero_le _, rfl, HX17.out, g17⟩
          case round =>
            clear HX17 g17
            obtain ⟨k, vx, hk, rfl, hX, hB⟩ := hrel
            have k0 : (0 : Int) ≤ (k : Int) := by omega
            have HX := hid1 hX
            have hwl := Bf.allW_well HBo16.out.well (l := l) (fs := fs) (ord.take k)
            by_cases hklt : k < ord.length
            · have k1 : (k : Int) < (ord.length : Int) := by omega
              obtain ⟨g, oi, rfl, hg, hc⟩ := HOc.out (by intro e; rw [e] at hklt; simp at hklt)
              have e0 := (hB.cell (p := ⟨g, oi + k, none⟩) hg).trans (hc k hklt)
              have HE0 := hid1 fun (V : World) (gV : Below w16.heap.size w16 V) => (gV.cell (p := ⟨g, oi + k, none⟩) hg).trans (hc k hklt)
              have hil : ord[k] < l.length := HLt.out _ (List.getElem_mem hklt)
              have HTk := hid1 (HTd.out ord[k] (List.getElem_mem hklt) hil wr _ M uT _ (HBo16.out.m.below hB) (HRr.out.below (below_then G16 hB)))
              have htk : ord.take (k + 1) = ord.take k ++ [ord[k]] := List.take_succ_eq_append_getElem hklt
              have HSn : Hid (Bf.allW fs l (ord.take (k + 1)) = Bf.allS fs l (Bf.allW fs l (ord.take k)) ord[k]) := hid1 (by rw [htk, Bf.allW_snoc])
              have HWk := hid1 hwl
              clear hc htk HOc hX HLt HTd hwl
              generalize ord[k] = i at *
              have i0 : (0 : Int) ≤ (i : Int) := by omega
              have i1 : (i : Int) < (l.length : Int) := by omega
              obtain ⟨g2, o2, rfl, hg2, hc2⟩ := HLc.out (by intro e; rw [e] at hil; simp at hil)
              have c0 := cell_below' (hc2 i hil).1 (below_then G16 hB)
              have HC0 := hid1 fun (V : World) (gV : Below w16.heap.size w16 V) => cell_below' (hc2 i hil).1 (below_then G16 gV)
              have hout := (HSm.out _ (List.getElem_mem hil)).out
              unfold Bf.allS at HSn
              rw [Bf.getD_at hil] at HSn
              clear HLc hc2
              generalize l[i].out = x at *
              obtain ⟨b, c, hbc⟩ : ∃ b c, Bf.want Af.actO fs l x = (b, c) := ⟨_, _, rfl⟩
              rw [hbc] at HTk HSn
              clear hbc
              simp only at HTk HSn
              have hBz := hB.size
              by_cases hc0 : c = 0
              · subst hc0
                replace HTk : Hid (Calls Tryz.prog 77 #[Ptr M, .slice (some ⟨g2, o2, none⟩) l.length cl, .string (ba x)] wr fun e w' => e = .returned (.tuple #[.string (ba b), .int .i64 0]) ∧ Below wr.heap.size wr w') := hid1 HTk.out
                rw [if_pos rfl] at HSn
                go_wp2_with fail
                refine HTk.out.mono ?_
                rintro e w20 ⟨rfl, g20⟩
                have hB20 := hB.trans (g20.mono hBz)
                have HP20 := hid1 (rPutK_calls (HX.out.below g20) HWk.out x b (by omega))
                rw [← HSn.out] at HP20
                have e20 := HE0.out w20 hB20
                have c20 := HC0.out w20 hB20
                have hBz20 := hB20.size
                clear HTk HX HSn HWk
                go_wp2_with fail
                refine HP20.out.mono ?_
                rintro e w21 ⟨rfl, ⟨v21, -, hX21⟩, g21, -⟩
                have HX21 := hid1 hX21
                have hB21 := hB20.trans g21
                clear HP20 hX21 g21
                go_wp2
                exact ⟨⟨k + 1, v21, by omega, by go_num, HX21.out, hB21⟩, by simp [intOf]; omega⟩
              · rw [if_neg hc0] at HSn
                have cne : ((c : Int) == 0) = false := by simp; omega
                go_wp2_with fail
                refine HTk.out.mono ?_
                rintro e w20 ⟨rfl, g20⟩
                have hB20 := hB.trans (g20.mono hBz)
                have HX20 := hid1 (HX.out.below g20)
                rw [← HSn.out] at HX20
                clear HTk HX HSn HWk
                go_wp2
                exact ⟨⟨k + 1, vx, by omega, by go_num, HX20.out, hB20⟩, by simp [intOf]; omega⟩
            · have k1 : (ord.length : Int) ≤ (k : Int) := by omega
              rw [List.take_of_length_le (by omega)] at hX hwl
              have GA := below_then G16 hB
              have hsz : ∀ f ∈ Bf.allW fs l ord, f.1.length ≤ 1000 ∧ f.2.length ≤ 2000 := fun f hf => ⟨Bf.allW_len HSm.out HFl.out ord f hf, (hwl.each f hf).2⟩
              have hsf : ∀ f ∈ fs, f.1.length ≤ 1000 ∧ f.2.length ≤ 2000 := fun f hf => ⟨HFl.out f hf, (HBo16.out.well.each f hf).2⟩
              have HT1 := hid1 (Text_calls (HTa16.out.below hB) (pow_below HPw.out GA) hwl.rises (by have := hwl.few; omega) hsz)
              have HT2 := hid1 fun (V : World) (gV : Below wr.heap.size wr V) => rText_calls (hX.below gV) hwl
              have HT3 := hid1 fun (V : World) (gV : Below w16.heap.size w16 V) => Text_calls (HBo16.out.t.below gV) (pow_below HPw.out (below_then G16 gV)) HBo16.out.well.rises (by have := HBo16.out.well.few; omega) hsf
              have HT4 := hid1 fun (V : World) (gV : Below w16.heap.size w16 V) => rText_calls (HBo16.out.m.below gV) HBo16.out.well
              have hBz := hB.size
              clear hX hwl HX hsz hsf HTd HLt HOc HLc
              generalize Tf.textT (Bf.allW fs l ord) = tx at *
              generalize Tf.textT fs = tf at *
              go_wp2_with fail
              refine HT1.out.mono ?_
              rintro e w22 ⟨rfl, g22⟩
              have HT2' := hid1 (HT2.out w22 g22)
              clear HT1 HT2
              go_wp2_with fail
              refine HT2'.out.mono ?_
              rintro e w23 ⟨rfl, g23⟩
              have g223 := below_then g22 g23
              have hB23 := hB.trans (g223.mono hBz)
              have HT3' := hid1 (HT3.out w23 hB23)
              clear HT2' HT3
              go_wp2_with fail
              refine HT3'.out.mono ?_
              rintro e w24 ⟨rfl, g24⟩
              have hB24 := hB23.trans (g24.mono hB23.size)
              have HT4' := hid1 (HT4.out w24 hB24)
              clear HT3' HT4
              go_wp2_with fail
              refine HT4'.out.mono ?_
              rintro e w25 ⟨rfl, g25⟩
              have hB25 := hB24.trans (g25.mono hB24.size)
              have G25 := below_then G16 hB25
              clear HT4'
              go_wp2
              go_ret
              exact ⟨rfl, G25⟩
    · go_wp2_with fail
      refine HFa.out.mono ?_
      rintro e w9 ⟨rfl, g9⟩
      have G9 := below_then G8 g9
      have HBo9 := hid1 (HBo8.out.below g9)
      clear HFa HBo8 g9 b0 b1 gA g68 G8 hw8
      have HO9 := hid1 (HOr.out w9 G9 (by omega) fun x hx => (HSm.out x hx).many)
      clear HOr
      go_wp2_with fail
      refine HO9.out.mono ?_
      rintro e w10 ⟨v10, rfl, hR10, g10⟩
      have G10 := below_then G9 g10
      have HBo10 := hid1 (HBo9.out.below g10)
      have HAl := hid1 (wAll_calls (HW.out.below G10) (HE.out.below G10).terr HBo10.out.t HBo10.out.well HFl.out v10 l hR10 (by omega) HSm.out)
      obtain ⟨p10, c10, rfl, -⟩ := hR10
      clear HO9 HBo9 g10 G9
      go_wp2_with fail
      refine HAl.out.mono ?_
      rintro e w11 ⟨av, ev2, rfl, g11, hA11⟩
      have G11 := below_then G10 g11
      have HBo11 := hid1 (HBo10.out.below g11)
      have HS11 := hid1 (HSf.out w11 G11 (by omega) HSm.out)
      have hz10 := G10.size
      clear HAl HBo10 g11 HSf
      rcases hA11 with ⟨hf, rfl, hEv2⟩ | ⟨hf, hnone, rfl, rfl⟩ | ⟨hf, ord, ab, oo, hsome, rfl, rfl, hTa⟩
      · have HEv := hid1 hEv2
        obtain ⟨t2, x2, rfl⟩ := hEv2.some hf
        obtain ⟨fc2, fa2, hfe⟩ : ∃ fc2 fa2, Ru.fault l = (fc2, fa2) := ⟨_, _, rfl⟩
        rw [hfe] at HS11 HEv hf
        have fpos2 : (0 : Int) < (fc2 : Int) := by have : fc2 ≠ 0 := hf; omega
        have fne2 : ((fc2 : Int) == 0) = false := by simp; omega
        clear hfe hf hEv2 HOo HLc HBo11
        simp only at HS11
        go_wp2_with fail
        refine HS11.out.mono ?_
        rintro e w12 ⟨rfl, g12⟩
        have gB : Below w12.heap.size w12 (w12.alloc (.cells #[.int .i64 (fc2 : Nat), .int .i64 fa2] 75)) := (Below.refl _ w12).alloc (Nat.le_refl _) _
        have G13 := below_then G11 (below_then g12 gB)
        have HFb := hid1 fun V (gV : Below (w12.alloc (.cells #[.int .i64 (fc2 : Nat), .int .i64 fa2] 75)).heap.size (w12.alloc (.cells #[.int .i64 (fc2 : Nat), .int .i64 fa2] 75)) V) => faulted2_calls (HE.out.below (below_then G13 gV)) (.iface t2 x2) (fc2, fa2) (HEv.out.below (below_then (below_then g12 gB) gV))
        have d0 : (w12.alloc (.cells #[.int .i64 (fc2 : Nat), .int .i64 fa2] 75)).cell? ⟨w12.heap.size, 0, none⟩ = some (.int .i64 (fc2 : Nat)) := cell_of_row (j := 0) (row_newW w12 _) rfl
        have d1 : (w12.alloc (.cells #[.int .i64 (fc2 : Nat), .int .i64 fa2] 75)).cell? ⟨w12.heap.size, 1, none⟩ = some (.int .i64 fa2) := cell_of_row (j := 1) (row_newW w12 _) rfl
        clear HS11 g12 gB
        generalize hw13 : w12.alloc (.cells #[.int .i64 (fc2 : Nat), .int .i64 fa2] 75) = w13 at *
        have gC : Below w13.heap.size w13 (w13.alloc (.cells #[] 3)) := (Below.refl _ w13).alloc (Nat.le_refl _) _
        have HF14 := hid1 (HFb.out _ gC)
        have G14 := below_then G13 gC
        have dd0 := cell_below' d0 gC
        have dd1 := cell_below' d1 gC
        clear HFb
        go_wp2_with fail
        refine HF14.out.mono ?_
        rintro e w15 ⟨rfl, g15⟩
        have G15 := below_then G14 g15
        clear HF14
        go_wp2
        go_ret
        exact ⟨rfl, G15⟩
      · have hfz := Ru.fault_zero hf
        rw [hfz] at HS11
        replace HS11 : Hid (Calls Tryz.prog 45 #[.slice pl l.length cl] w11 fun e w' => e = .returned (.agg #[.int .i64 0, .int .i64 (-1)]) ∧ Below w11.heap.size w11 w') := hid1 HS11.out
        obtain ⟨t9, x9, e9⟩ : ∃ t x, erOf es 9 = .iface t x := ⟨_, _, rfl⟩
        have HEv : Hid (∀ V, ErrV V es (.iface t9 x9) (9, -1)) := hid1 fun V => by rw [← e9]; exact ErrV.bare (by omega)
        have HNn := hid1 hnone
        rw [e9]
        clear hfz hf e9 hnone HLc HBo11
        go_wp2_with fail
        refine HS11.out.mono ?_
        rintro e w12 ⟨rfl, g12⟩
        have gB : Below w12.heap.size w12 (w12.alloc (.cells #[.int .i64 0, .int .i64 (-1)] 75)) := (Below.refl _ w12).alloc (Nat.le_refl _) _
        have G13 := below_then G11 (below_then g12 gB)
        have HR13 := hid1 (row_newW w12 (.cells #[.int .i64 0, .int .i64 (-1)] 75))
        have z12 := (below_then G11 g12).size
        clear HS11 g12 gB
        generalize hw13 : w12.alloc (.cells #[.int .i64 0, .int .i64 (-1)] 75) = w13 at *
        have gC : Below w13.heap.size w13 (w13.alloc (.cells #[] 3)) := (Below.refl _ w13).alloc (Nat.le_refl _) _
        have G14 := below_then G13 gC
        have r14 := row_below HR13.out gC
        have HR14 := hid1 r14
        have d0 := cell_of_row (j := 0) r14 rfl
        have HAo := hid1 (AllOf_calls l.length (by omega) (w13.alloc (.cells #[] 3)))
        clear HR13 r14 G13
        generalize hw14 : w13.alloc (.cells #[] 3) = w14 at *
        clear gC
        go_wp2_with fail
        refine HAo.out.mono ?_
        rintro e w15 ⟨go15, rfl, hOw, g15⟩
        have G15 := below_then G14 g15
        have HO15 := hid1 (HOo.out w15 G15 (by omega) (fun x hx => by have := (HSm.out x hx).many; omega) go15 l.length (fun _ => true) fun j hj => hOw.cell hj)
        clear HAo hOw HOo
        go_wp2_with fail
        refine HO15.out.mono ?_
        rintro e w16 ⟨u16, b16, rfl, g16, h16⟩
        have G16 := below_then G15 g16
        have HB16 := hid1 (rBare_calls w16 9)
        rcases h16 with ⟨rfl, rfl, -⟩ | ⟨oq, -, hoq, -⟩
        · clear HO15
          go_wp2_with fail
          refine HB16.out.mono ?_
          rintro e w17 ⟨rfl, g17⟩
          have G17 := below_then G16 g17
          have g14 := below_then (below_then g15 g16) g17
          have rr := row_below HR14.out g14
          have y0 := cell_of_row (j := 0) rr rfl
          have f0 : w17.frozen? ⟨w12.heap.size, 0, none⟩ = false := by simp [World.frozen?, rr]
          obtain ⟨w17', hw17⟩ : ∃ w17', w17.setCell ⟨w12.heap.size, 0, none⟩ (.int .i64 9) = w17' := ⟨_, rfl⟩
          have rr' : w17'.heap[w12.heap.size]? = some (.cells #[.int .i64 9, .int .i64 (-1)] 75) := by
            rw [← hw17, heap_setCell_same w17 w12.heap.size 0 _ _ (.int .i64 9) rr]; rfl
          have y1 := cell_of_row (j := 1) rr' rfl
          have f1 : w17'.frozen? ⟨w12.heap.size, 1, none⟩ = false := by simp [World.frozen?, rr']
          obtain ⟨w18, hw18⟩ : ∃ w18, w17'.setCell ⟨w12.heap.size, 1, none⟩ (.int .i64 (-1)) = w18 := ⟨_, rfl⟩
          have r18 : w18.heap[w12.heap.size]? = some (.cells #[.int .i64 9, .int .i64 (-1)] 75) := by
            rw [← hw18, heap_setCell_same w17' w12.heap.size 1 _ _ (.int .i64 (-1)) rr']; rfl
          have q0 := cell_of_row (j := 0) r18 rfl
          have q1 := cell_of_row (j := 1) r18 rfl
          have G18 : Below W.heap.size W w18 := by
            rw [← hw18, ← hw17]
            exact (G17.setCell (p := ⟨w12.heap.size, 0, none⟩) z12 _).setCell (p := ⟨w12.heap.size, 1, none⟩) z12 _
          have HF18 : Hid (Calls Tryz.prog 70 #[.iface t9 x9, .agg #[.int .i64 9, .int .i64 (-1)]] w18 fun e w' => e = .returned (.bool true) ∧ Below w18.heap.size w18 w') := hid1 (faulted2_calls (HE.out.below G18) (.iface t9 x9) (9, -1) (HEv.out w18))
          clear HB16 HR14 rr rr' r18 g14 g15 g16 g17 G14 G15 G16 G17 hw13 hw14 d0
          go_wp2_with fail
          refine HF18.out.mono ?_
          rintro e w19 ⟨rfl, g19⟩
          have G19 := below_then G18 g19
          clear HF18
          go_wp2
          go_ret
          exact ⟨rfl, G19⟩
        · have := HNn.out
          rw [show Ru.order l allB1 = Ru.order l (fun _ => true) from rfl, hoq] at this
          cases this
      · have hfz := Ru.fault_zero hf
        rw [hfz] at HS11
        replace HS11 : Hid (Calls Tryz.prog 45 #[.slice pl l.length cl] w11 fun e w' => e = .returned (.agg #[.int .i64 0, .int .i64 (-1)]) ∧ Below w11.heap.size w11 w') := hid1 HS11.out
        obtain ⟨h40, hAp⟩ := Ru.fault_ok hf
        obtain ⟨ht, hall⟩ := Ru.order_some hsome
        obtain ⟨hnd, hlt⟩ := Ru.order_nodup hsome
        have hol : ord.length ≤ l.length := Bf.order_len hnd hlt
        have HSo := hid1 hsome
        have HLt := hid1 hlt
        have HTa := hid1 hTa
        have HTd : Hid (∀ i ∈ ord, ∀ hi : i < l.length, WantTold fs l l[i].out) := hid1 fun i hi hil => WantOf_told HAct.out (by have := HBo11.out.well.few; omega) HBo11.out.well.rises HBy.out h40 HSm.out ht hnd hlt l[i].out fun j hj => by
          obtain ⟨hk, ek⟩ := Bf.mkr_of hj
          have := hAp j i hk hil ek
          rw [this]; exact hi
        clear hfz hf hsome hTa ht hall hnd hlt hAp
        go_wp2_with fail
        refine HS11.out.mono ?_
        rintro e w12 ⟨rfl, g12⟩
        have gB : Below w12.heap.size w12 (w12.alloc (.cells #[.int .i64 0, .int .i64 (-1)] 75)) := (Below.refl _ w12).alloc (Nat.le_refl _) _
        have g13 := below_then g12 gB
        have HR13 := hid1 (row_newW w12 (.cells #[.int .i64 0, .int .i64 (-1)] 75))
        clear HS11 g12 gB
        generalize hw13 : w12.alloc (.cells #[.int .i64 0, .int .i64 (-1)] 75) = w13 at *
        have gC : Below w13.heap.size w13 (w13.alloc (.cells #[] 3)) := (Below.refl _ w13).alloc (Nat.le_refl _) _
        have g14 := below_then g13 gC
        have r14 := row_below HR13.out gC
        have HR14 := hid1 r14
        have d0 := cell_of_row (j := 0) r14 rfl
        have HAo := hid1 (AllOf_calls l.length (by omega) (w13.alloc (.cells #[] 3)))
        clear HR13 r14 g13
        generalize hw14 : w13.alloc (.cells #[] 3) = w14 at *
        clear gC
        go_wp2_with fail
        refine HAo.out.mono ?_
        rintro e w15 ⟨go15, rfl, hOw, g15⟩
        have G15 := below_then G11 (below_then g14 g15)
        have HO15 := hid1 (HOo.out w15 G15 (by omega) (fun x hx => by have := (HSm.out x hx).many; omega) go15 l.length (fun _ => true) fun j hj => hOw.cell hj)
        clear HAo hOw HOo
        go_wp2_with fail
        refine HO15.out.mono ?_
        rintro e w16 ⟨u16, b16, rfl, g16, h16⟩
        have g1416 := below_then g15 g16
        have d16 := cell_of_row (j := 0) (row_below HR14.out g1416) rfl
        have g1116 := below_then g14 g1416
        have G16 := below_then G11 g1116
        rcases h16 with ⟨-, -, hoq⟩ | ⟨oq, rfl, hoq, hrq, -, -⟩
        · have := HSo.out
          rw [show Ru.order l allB1 = Ru.order l (fun _ => true) from rfl, hoq] at this
          cases this
        · obtain rfl : ord = oq := by
            have := HSo.out
            rw [show Ru.order l allB1 = Ru.order l (fun _ => true) from rfl, hoq] at this
            exact (Option.some.inj this).symm
          have HBo16 := hid1 (HBo11.out.below g1116)
          have HTa16 := hid1 (HTa.out.below g1116)
          have HCp := hid1 (CopyTree_calls HBo16.out.m (by have := HBo16.out.well.few; omega))
          obtain ⟨po, co, rfl, hoc⟩ := hrq.ni
          have HOc := hid1 hoc
          have zo : (ord.length : Int) ≤ 40 := by omega
          have zl : (l.length : Int) ≤ 40 := by omega
          clear HO15 HR14 g14 g15 g16 g1416 g1116 G15 hrq hoc hoq HSo HBo11 HTa hw13 hw14 d0
          go_wp2_with fail
          refine HCp.out.mono ?_
          rintro e w17 ⟨tv, rfl, hX17, g17⟩
          have HX17 := hid1 hX17
          clear HCp hX17 d16
          go_wp2
          go_loopw [20] (fun iv wr => ∃ (k : Nat) (v : Value), k ≤ ord.length ∧ iv = .int .i64 k ∧ RTreeAt w16.heap.size wr w16.heap.size (Bf.allW fs l (ord.take k)) v ∧ Below w16.heap.size w16 wr) (fun iv _ => ord.length - (intOf iv).toNat)
          case atStart => exact ⟨0, tv, Nat.zero_le _, rfl, HX17.out, g17⟩
          case round =>
            clear HX17 g17
            obtain ⟨k, vx, hk, rfl, hX, hB⟩ := hrel
            have k0 : (0 : Int) ≤ (k : Int) := by omega
            have HX := hid1 hX
            have hwl := Bf.allW_well HBo16.out.well (l := l) (fs := fs) (ord.take k)
            by_cases hklt : k < ord.length
            · have k1 : (k : Int) < (ord.length : Int) := by omega
              obtain ⟨g, oi, rfl, hg, hc⟩ := HOc.out (by intro e; rw [e] at hklt; simp at hklt)
              have e0 := (hB.cell (p := ⟨g, oi + k, none⟩) hg).trans (hc k hklt)
              have HE0 := hid1 fun (V : World) (gV : Below w16.heap.size w16 V) => (gV.cell (p := ⟨g, oi + k, none⟩) hg).trans (hc k hklt)
              have hil : ord[k] < l.length := HLt.out _ (List.getElem_mem hklt)
              have HTk := hid1 (HTd.out ord[k] (List.getElem_mem hklt) hil wr _ M uT _ (HBo16.out.m.below hB) (HRr.out.below (below_then G16 hB)))
              have htk : ord.take (k + 1) = ord.take k ++ [ord[k]] := List.take_succ_eq_append_getElem hklt
              have HSn : Hid (Bf.allW fs l (ord.take (k + 1)) = Bf.allS fs l (Bf.allW fs l (ord.take k)) ord[k]) := hid1 (by rw [htk, Bf.allW_snoc])
              have HWk := hid1 hwl
              clear hc htk HOc hX HLt HTd hwl
              generalize ord[k] = i at *
              have i0 : (0 : Int) ≤ (i : Int) := by omega
              have i1 : (i : Int) < (l.length : Int) := by omega
              obtain ⟨g2, o2, rfl, hg2, hc2⟩ := HLc.out (by intro e; rw [e] at hil; simp at hil)
              have c0 := cell_below' (hc2 i hil).1 (below_then G16 hB)
              have HC0 := hid1 fun (V : World) (gV : Below w16.heap.size w16 V) => cell_below' (hc2 i hil).1 (below_then G16 gV)
              have hout := (HSm.out _ (List.getElem_mem hil)).out
              unfold Bf.allS at HSn
              rw [Bf.getD_at hil] at HSn
              clear HLc hc2
              generalize l[i].out = x at *
              obtain ⟨b, c, hbc⟩ : ∃ b c, Bf.want Af.actO fs l x = (b, c) := ⟨_, _, rfl⟩
              rw [hbc] at HTk HSn
              clear hbc
              simp only at HTk HSn
              have hBz := hB.size
              by_cases hc0 : c = 0
              · subst hc0
                replace HTk : Hid (Calls Tryz.prog 77 #[Ptr M, .slice (some ⟨g2, o2, none⟩) l.length cl, .string (ba x)] wr fun e w' => e = .returned (.tuple #[.string (ba b), .int .i64 0]) ∧ Below wr.heap.size wr w') := hid1 HTk.out
                rw [if_pos rfl] at HSn
                go_wp2_with fail
                refine HTk.out.mono ?_
                rintro e w20 ⟨rfl, g20⟩
                have hB20 := hB.trans (g20.mono hBz)
                have HP20 := hid1 (rPutK_calls (HX.out.below g20) HWk.out x b (by omega))
                rw [← HSn.out] at HP20
                have e20 := HE0.out w20 hB20
                have c20 := HC0.out w20 hB20
                have hBz20 := hB20.size
                clear HTk HX HSn HWk
                go_wp2_with fail
                refine HP20.out.mono ?_
                rintro e w21 ⟨rfl, ⟨v21, -, hX21⟩, g21, -⟩
                have HX21 := hid1 hX21
                have hB21 := hB20.trans g21
                clear HP20 hX21 g21
                go_wp2
                exact ⟨⟨k + 1, v21, by omega, by go_num, HX21.out, hB21⟩, by simp [intOf]; omega⟩
              · rw [if_neg hc0] at HSn
                have cne : ((c : Int) == 0) = false := by simp; omega
                go_wp2_with fail
                refine HTk.out.mono ?_
                rintro e w20 ⟨rfl, g20⟩
                have hB20 := hB.trans (g20.mono hBz)
                have HX20 := hid1 (HX.out.below g20)
                rw [← HSn.out] at HX20
                clear HTk HX HSn HWk
                go_wp2
                exact ⟨⟨k + 1, vx, by omega, by go_num, HX20.out, hB20⟩, by simp [intOf]; omega⟩
            · have k1 : (ord.length : Int) ≤ (k : Int) := by omega
              rw [List.take_of_length_le (by omega)] at hX hwl
              have GA := below_then G16 hB
              have hsz : ∀ f ∈ Bf.allW fs l ord, f.1.length ≤ 1000 ∧ f.2.length ≤ 2000 := fun f hf => ⟨Bf.allW_len HSm.out HFl.out ord f hf, (hwl.each f hf).2⟩
              have hsf : ∀ f ∈ fs, f.1.length ≤ 1000 ∧ f.2.length ≤ 2000 := fun f hf => ⟨HFl.out f hf, (HBo16.out.well.each f hf).2⟩
              have HT1 := hid1 (Text_calls (HTa16.out.below hB) (pow_below HPw.out GA) hwl.rises (by have := hwl.few; omega) hsz)
              have HT2 := hid1 fun (V : World) (gV : Below wr.heap.size wr V) => rText_calls (hX.below gV) hwl
              have HT3 := hid1 fun (V : World) (gV : Below w16.heap.size w16 V) => Text_calls (HBo16.out.t.below gV) (pow_below HPw.out (below_then G16 gV)) HBo16.out.well.rises (by have := HBo16.out.well.few; omega) hsf
              have HT4 := hid1 fun (V : World) (gV : Below w16.heap.size w16 V) => rText_calls (HBo16.out.m.below gV) HBo16.out.well
              have hBz := hB.size
              clear hX hwl HX hsz hsf HTd HLt HOc HLc
              generalize Tf.textT (Bf.allW fs l ord) = tx at *
              generalize Tf.textT fs = tf at *
              go_wp2_with fail
              refine HT1.out.mono ?_
              rintro e w22 ⟨rfl, g22⟩
              have HT2' := hid1 (HT2.out w22 g22)
              clear HT1 HT2
              go_wp2_with fail
              refine HT2'.out.mono ?_
              rintro e w23 ⟨rfl, g23⟩
              have g223 := below_then g22 g23
              have hB23 := hB.trans (g223.mono hBz)
              have HT3' := hid1 (HT3.out w23 hB23)
              clear HT2' HT3
              go_wp2_with fail
              refine HT3'.out.mono ?_
              rintro e w24 ⟨rfl, g24⟩
              have hB24 := hB23.trans (g24.mono hB23.size)
              have HT4' := hid1 (HT4.out w24 hB24)
              clear HT3' HT4
              go_wp2_with fail
              refine HT4'.out.mono ?_
              rintro e w25 ⟨rfl, g25⟩
              have hB25 := hB24.trans (g25.mono hB24.size)
              have G25 := below_then G16 hB25
              clear HT4'
              go_wp2
              go_ret
              exact ⟨rfl, G25⟩
  · have hBy2 := HBy.out
    obtain ⟨h40, -⟩ := Ru.fault_ok hft
    obtain ⟨o8, ht8, hnd8, hlt8, hin8⟩ := need_order hso
    have HTo := hid1 (WantOf_told HAct.out (by have := HBo8.out.well.few; omega) HBo8.out.well.rises hBy2 h40 HSm.out ht8 hnd8 hlt8 out hin8 _ _ M uT _ HBo8.out.m (HRr.out.below G8))
    have HCd : Hid (∀ V, Below W.heap.size W V → Calls Tryz.prog 68 #[erOf es (Bf.want Af.actO fs l out).2, .int .i64 ((Bf.want Af.actO fs l out).2 : Int)] V fun e w' => e = .returned (.bool true) ∧ Below V.heap.size V w') := hid1 fun V g => coded2_er _ (want_code fs l out) es V (HE.out.below g)
    clear hft hex hso ht8 hnd8 hlt8 hin8 hBy2
    generalize Bf.want Af.actO fs l out = wr8 at *
    obtain ⟨wb, wc⟩ := wr8
    replace HTo : Hid (Calls Tryz.prog 77 #[Ptr M, .slice pl l.length cl, .string (ba out)] (w7.alloc (.cells #[.int .i64 0, .int .i64 (-1)] 75)) fun e w' => e = .returned (.tuple #[.string (ba wb), .int .i64 (wc : Nat)]) ∧ Below (w7.alloc (.cells #[.int .i64 0, .int .i64 (-1)] 75)).heap.size (w7.alloc (.cells #[.int .i64 0, .int .i64 (-1)] 75)) w') := hid1 HTo.out
    replace HBo8 : Hid (Both w3.heap.size (w7.alloc (.cells #[.int .i64 0, .int .i64 (-1)] 75)) T M fs oT uT) := hid1 HBo8.out
    replace G8 : Below W.heap.size W (w7.alloc (.cells #[.int .i64 0, .int .i64 (-1)] 75)) := G8
    replace b0 : (w7.alloc (.cells #[.int .i64 0, .int .i64 (-1)] 75)).cell? ⟨w7.heap.size, 0, none⟩ = some (.int .i64 0) := b0
    replace b1 : (w7.alloc (.cells #[.int .i64 0, .int .i64 (-1)] 75)).cell? ⟨w7.heap.size, 1, none⟩ = some (.int .i64 (-1)) := b1
    clear gA g68
    simp only at HCd hevs ⊢
    generalize hw8 : w7.alloc (.cells #[.int .i64 0, .int .i64 (-1)] 75) = w8 at *
    generalize erOf es wc = ev at *
    rcases hevs with ⟨et, eu, rfl⟩ | rfl
    · go_wp2_with fail
      refine HTo.out.mono ?_
      rintro e w89 ⟨rfl, g89⟩
      have G89 := below_then G8 g89
      have HBo89 := hid1 (HBo8.out.below g89)
      have HC9 := hid1 (HCd.out w89 G89)
      clear HTo HCd HBo8 g89 b0 b1 G8 hw8
      go_wp2_with fail
      refine HC9.out.mono ?_
      rintro e w9 ⟨rfl, g9⟩
      have G9 := below_then G89 g9
      have HBo9 := hid1 (HBo89.out.below g9)
      clear HC9 HBo89 g9 G89
      have HO9 := hid1 (HOr.out w9 G9 (by omega) fun x hx => (HSm.out x hx).many)
      clear HOr
      go_wp2_with fail
      refine HO9.out.mono ?_
      rintro e w10 ⟨v10, rfl, hR10, g10⟩
      have G10 := below_then G9 g10
      have HBo10 := hid1 (HBo9.out.below g10)
      have HAl := hid1 (wAll_calls (HW.out.below G10) (HE.out.below G10).terr HBo10.out.t HBo10.out.well HFl.out v10 l hR10 (by omega) HSm.out)
      obtain ⟨p10, c10, rfl, -⟩ := hR10
      clear HO9 HBo9 g10 G9
      go_wp2_with fail
      refine HAl.out.mono ?_
      rintro e w11 ⟨av, ev2, rfl, g11, hA11⟩
      have G11 := below_then G10 g11
      have HBo11 := hid1 (HBo10.out.below g11)
      have HS11 := hid1 (HSf.out w11 G11 (by omega) HSm.out)
      have hz10 := G10.size
      clear HAl HBo10 g11 HSf
      rcases hA11 with ⟨hf, rfl, hEv2⟩ | ⟨hf, hnone, rfl, rfl⟩ | ⟨hf, ord, ab, oo, hsome, rfl, rfl, hTa⟩
      · have HEv := hid1 hEv2
        obtain ⟨t2, x2, rfl⟩ := hEv2.some hf
        obtain ⟨fc2, fa2, hfe⟩ : ∃ fc2 fa2, Ru.fault l = (fc2, fa2) := ⟨_, _, rfl⟩
        rw [hfe] at HS11 HEv hf
        have fpos2 : (0 : Int) < (fc2 : Int) := by have : fc2 ≠ 0 := hf; omega
        have fne2 : ((fc2 : Int) == 0) = false := by simp; omega
        clear hfe hf hEv2 HOo HLc HBo11
        simp only at HS11
        go_wp2_with fail
        refine HS11.out.mono ?_
        rintro e w12 ⟨rfl, g12⟩
        have gB : Below w12.heap.size w12 (w12.alloc (.cells #[.int .i64 (fc2 : Nat), .int .i64 fa2] 75)) := (Below.refl _ w12).alloc (Nat.le_refl _) _
        have G13 := below_then G11 (below_then g12 gB)
        have HFb := hid1 fun V (gV : Below (w12.alloc (.cells #[.int .i64 (fc2 : Nat), .int .i64 fa2] 75)).heap.size (w12.alloc (.cells #[.int .i64 (fc2 : Nat), .int .i64 fa2] 75)) V) => faulted2_calls (HE.out.below (below_then G13 gV)) (.iface t2 x2) (fc2, fa2) (HEv.out.below (below_then (below_then g12 gB) gV))
        have d0 : (w12.alloc (.cells #[.int .i64 (fc2 : Nat), .int .i64 fa2] 75)).cell? ⟨w12.heap.size, 0, none⟩ = some (.int .i64 (fc2 : Nat)) := cell_of_row (j := 0) (row_newW w12 _) rfl
        have d1 : (w12.alloc (.cells #[.int .i64 (fc2 : Nat), .int .i64 fa2] 75)).cell? ⟨w12.heap.size, 1, none⟩ = some (.int .i64 fa2) := cell_of_row (j := 1) (row_newW w12 _) rfl
        clear HS11 g12 gB
        generalize hw13 : w12.alloc (.cells #[.int .i64 (fc2 : Nat), .int .i64 fa2] 75) = w13 at *
        have gC : Below w13.heap.size w13 (w13.alloc (.cells #[] 3)) := (Below.refl _ w13).alloc (Nat.le_refl _) _
        have HF14 := hid1 (HFb.out _ gC)
        have G14 := below_then G13 gC
        have dd0 := cell_below' d0 gC
        have dd1 := cell_below' d1 gC
        clear HFb
        go_wp2_with fail
        refine HF14.out.mono ?_
        rintro e w15 ⟨rfl, g15⟩
        have G15 := below_then G14 g15
        clear HF14
        go_wp2
        go_ret
        exact ⟨rfl, G15⟩
      · have hfz := Ru.fault_zero hf
        rw [hfz] at HS11
        replace HS11 : Hid (Calls Tryz.prog 45 #[.slice pl l.length cl] w11 fun e w' => e = .returned (.agg #[.int .i64 0, .int .i64 (-1)]) ∧ Below w11.heap.size w11 w') := hid1 HS11.out
        obtain ⟨t9, x9, e9⟩ : ∃ t x, erOf es 9 = .iface t x := ⟨_, _, rfl⟩
        have HEv : Hid (∀ V, ErrV V es (.iface t9 x9) (9, -1)) := hid1 fun V => by rw [← e9]; exact ErrV.bare (by omega)
        have HNn := hid1 hnone
        rw [e9]
        clear hfz hf e9 hnone HLc HBo11
        go_wp2_with fail
        refine HS11.out.mono ?_
        rintro e w12 ⟨rfl, g12⟩
        have gB : Below w12.heap.size w12 (w12.alloc (.cells #[.int .i64 0, .int .i64 (-1)] 75)) := (Below.refl _ w12).alloc (Nat.le_refl _) _
        have G13 := below_then G11 (below_then g12 gB)
        have HR13 := hid1 (row_newW w12 (.cells #[.int .i64 0, .int .i64 (-1)] 75))
        have z12 := (below_then G11 g12).size
        clear HS11 g12 gB
        generalize hw13 : w12.alloc (.cells #[.int .i64 0, .int .i64 (-1)] 75) = w13 at *
        have gC : Below w13.heap.size w13 (w13.alloc (.cells #[] 3)) := (Below.refl _ w13).alloc (Nat.le_refl _) _
        have G14 := below_then G13 gC
        have r14 := row_below HR13.out gC
        have HR14 := hid1 r14
        have d0 := cell_of_row (j := 0) r14 rfl
        have HAo := hid1 (AllOf_calls l.length (by omega) (w13.alloc (.cells #[] 3)))
        clear HR13 r14 G13
        generalize hw14 : w13.alloc (.cells #[] 3) = w14 at *
        clear gC
        go_wp2_with fail
        refine HAo.out.mono ?_
        rintro e w15 ⟨go15, rfl, hOw, g15⟩
        have G15 := below_then G14 g15
        have HO15 := hid1 (HOo.out w15 G15 (by omega) (fun x hx => by have := (HSm.out x hx).many; omega) go15 l.length (fun _ => true) fun j hj => hOw.cell hj)
        clear HAo hOw HOo
        go_wp2_with fail
        refine HO15.out.mono ?_
        rintro e w16 ⟨u16, b16, rfl, g16, h16⟩
        have G16 := below_then G15 g16
        have HB16 := hid1 (rBare_calls w16 9)
        rcases h16 with ⟨rfl, rfl, -⟩ | ⟨oq, -, hoq, -⟩
        · clear HO15
          go_wp2_with fail
          refine HB16.out.mono ?_
          rintro e w17 ⟨rfl, g17⟩
          have G17 := below_then G16 g17
          have g14 := below_then (below_then g15 g16) g17
          have rr := row_below HR14.out g14
          have y0 := cell_of_row (j := 0) rr rfl
          have f0 : w17.frozen? ⟨w12.heap.size, 0, none⟩ = false := by simp [World.frozen?, rr]
          obtain ⟨w17', hw17⟩ : ∃ w17', w17.setCell ⟨w12.heap.size, 0, none⟩ (.int .i64 9) = w17' := ⟨_, rfl⟩
          have rr' : w17'.heap[w12.heap.size]? = some (.cells #[.int .i64 9, .int .i64 (-1)] 75) := by
            rw [← hw17, heap_setCell_same w17 w12.heap.size 0 _ _ (.int .i64 9) rr]; rfl
          have y1 := cell_of_row (j := 1) rr' rfl
          have f1 : w17'.frozen? ⟨w12.heap.size, 1, none⟩ = false := by simp [World.frozen?, rr']
          obtain ⟨w18, hw18⟩ : ∃ w18, w17'.setCell ⟨w12.heap.size, 1, none⟩ (.int .i64 (-1)) = w18 := ⟨_, rfl⟩
          have r18 : w18.heap[w12.heap.size]? = some (.cells #[.int .i64 9, .int .i64 (-1)] 75) := by
            rw [← hw18, heap_setCell_same w17' w12.heap.size 1 _ _ (.int .i64 (-1)) rr']; rfl
          have q0 := cell_of_row (j := 0) r18 rfl
          have q1 := cell_of_row (j := 1) r18 rfl
          have G18 : Below W.heap.size W w18 := by
            rw [← hw18, ← hw17]
            exact (G17.setCell (p := ⟨w12.heap.size, 0, none⟩) z12 _).setCell (p := ⟨w12.heap.size, 1, none⟩) z12 _
          have HF18 : Hid (Calls Tryz.prog 70 #[.iface t9 x9, .agg #[.int .i64 9, .int .i64 (-1)]] w18 fun e w' => e = .returned (.bool true) ∧ Below w18.heap.size w18 w') := hid1 (faulted2_calls (HE.out.below G18) (.iface t9 x9) (9, -1) (HEv.out w18))
          clear HB16 HR14 rr rr' r18 g14 g15 g16 g17 G14 G15 G16 G17 hw13 hw14 d0
          go_wp2_with fail
          refine HF18.out.mono ?_
          rintro e w19 ⟨rfl, g19⟩
          have G19 := below_then G18 g19
          clear HF18
          go_wp2
          go_ret
          exact ⟨rfl, G19⟩
        · have := HNn.out
          rw [show Ru.order l allB1 = Ru.order l (fun _ => true) from rfl, hoq] at this
          cases this
      · have hfz := Ru.fault_zero hf
        rw [hfz] at HS11
        replace HS11 : Hid (Calls Tryz.prog 45 #[.slice pl l.length cl] w11 fun e w' => e = .returned (.agg #[.int .i64 0, .int .i64 (-1)]) ∧ Below w11.heap.size w11 w') := hid1 HS11.out
        obtain ⟨h40, hAp⟩ := Ru.fault_ok hf
        obtain ⟨ht, hall⟩ := Ru.order_some hsome
        obtain ⟨hnd, hlt⟩ := Ru.order_nodup hsome
        have hol : ord.length ≤ l.length := Bf.order_len hnd hlt
        have HSo := hid1 hsome
        have HLt := hid1 hlt
        have HTa := hid1 hTa
        have HTd : Hid (∀ i ∈ ord, ∀ hi : i < l.length, WantTold fs l l[i].out) := hid1 fun i hi hil => WantOf_told HAct.out (by have := HBo11.out.well.few; omega) HBo11.out.well.rises HBy.out h40 HSm.out ht hnd hlt l[i].out fun j hj => by
          obtain ⟨hk, ek⟩ := Bf.mkr_of hj
          have := hAp j i hk hil ek
          rw [this]; exact hi
        clear hfz hf hsome hTa ht hall hnd hlt hAp
        go_wp2_with fail
        refine HS11.out.mono ?_
        rintro e w12 ⟨rfl, g12⟩
        have gB : Below w12.heap.size w12 (w12.alloc (.cells #[.int .i64 0, .int .i64 (-1)] 75)) := (Below.refl _ w12).alloc (Nat.le_refl _) _
        have g13 := below_then g12 gB
        have HR13 := hid1 (row_newW w12 (.cells #[.int .i64 0, .int .i64 (-1)] 75))
        clear HS11 g12 gB
        generalize hw13 : w12.alloc (.cells #[.int .i64 0, .int .i64 (-1)] 75) = w13 at *
        have gC : Below w13.heap.size w13 (w13.alloc (.cells #[] 3)) := (Below.refl _ w13).alloc (Nat.le_refl _) _
        have g14 := below_then g13 gC
        have r14 := row_below HR13.out gC
        have HR14 := hid1 r14
        have d0 := cell_of_row (j := 0) r14 rfl
        have HAo := hid1 (AllOf_calls l.length (by omega) (w13.alloc (.cells #[] 3)))
        clear HR13 r14 g13
        generalize hw14 : w13.alloc (.cells #[] 3) = w14 at *
        clear gC
        go_wp2_with fail
        refine HAo.out.mono ?_
        rintro e w15 ⟨go15, rfl, hOw, g15⟩
        have G15 := below_then G11 (below_then g14 g15)
        have HO15 := hid1 (HOo.out w15 G15 (by omega) (fun x hx => by have := (HSm.out x hx).many; omega) go15 l.length (fun _ => true) fun j hj => hOw.cell hj)
        clear HAo hOw HOo
        go_wp2_with fail
        refine HO15.out.mono ?_
        rintro e w16 ⟨u16, b16, rfl, g16, h16⟩
        have g1416 := below_then g15 g16
        have d16 := cell_of_row (j := 0) (row_below HR14.out g1416) rfl
        have g1116 := below_then g14 g1416
        have G16 := below_then G11 g1116
        rcases h16 with ⟨-, -, hoq⟩ | ⟨oq, rfl, hoq, hrq, -, -⟩
        · have := HSo.out
          rw [show Ru.order l allB1 = Ru.order l (fun _ => true) from rfl, hoq] at this
          cases this
        · obtain rfl : ord = oq := by
            have := HSo.out
            rw [show Ru.order l allB1 = Ru.order l (fun _ => true) from rfl, hoq] at this
            exact (Option.some.inj this).symm
          have HBo16 := hid1 (HBo11.out.below g1116)
          have HTa16 := hid1 (HTa.out.below g1116)
          have HCp := hid1 (CopyTree_calls HBo16.out.m (by have := HBo16.out.well.few; omega))
          obtain ⟨po, co, rfl, hoc⟩ := hrq.ni
          have HOc := hid1 hoc
          have zo : (ord.length : Int) ≤ 40 := by omega
          have zl : (l.length : Int) ≤ 40 := by omega
          clear HO15 HR14 g14 g15 g16 g1416 g1116 G15 hrq hoc hoq HSo HBo11 HTa hw13 hw14 d0
          go_wp2_with fail
          refine HCp.out.mono ?_
          rintro e w17 ⟨tv, rfl, hX17, g17⟩
          have HX17 := hid1 hX17
          clear HCp hX17 d16
          go_wp2
          go_loopw [20] (fun iv wr => ∃ (k : Nat) (v : Value), k ≤ ord.length ∧ iv = .int .i64 k ∧ RTreeAt w16.heap.size wr w16.heap.size (Bf.allW fs l (ord.take k)) v ∧ Below w16.heap.size w16 wr) (fun iv _ => ord.length - (intOf iv).toNat)
          case atStart => exact ⟨0, tv, Nat.zero_le _, rfl, HX17.out, g17⟩
          case round =>
            clear HX17 g17
            obtain ⟨k, vx, hk, rfl, hX, hB⟩ := hrel
            have k0 : (0 : Int) ≤ (k : Int) := by omega
            have HX := hid1 hX
            have hwl := Bf.allW_well HBo16.out.well (l := l) (fs := fs) (ord.take k)
            by_cases hklt : k < ord.length
            · have k1 : (k : Int) < (ord.length : Int) := by omega
              obtain ⟨g, oi, rfl, hg, hc⟩ := HOc.out (by intro e; rw [e] at hklt; simp at hklt)
              have e0 := (hB.cell (p := ⟨g, oi + k, none⟩) hg).trans (hc k hklt)
              have HE0 := hid1 fun (V : World) (gV : Below w16.heap.size w16 V) => (gV.cell (p := ⟨g, oi + k, none⟩) hg).trans (hc k hklt)
              have hil : ord[k] < l.length := HLt.out _ (List.getElem_mem hklt)
              have HTk := hid1 (HTd.out ord[k] (List.getElem_mem hklt) hil wr _ M uT _ (HBo16.out.m.below hB) (HRr.out.below (below_then G16 hB)))
              have htk : ord.take (k + 1) = ord.take k ++ [ord[k]] := List.take_succ_eq_append_getElem hklt
              have HSn : Hid (Bf.allW fs l (ord.take (k + 1)) = Bf.allS fs l (Bf.allW fs l (ord.take k)) ord[k]) := hid1 (by rw [htk, Bf.allW_snoc])
              have HWk := hid1 hwl
              clear hc htk HOc hX HLt HTd hwl
              generalize ord[k] = i at *
              have i0 : (0 : Int) ≤ (i : Int) := by omega
              have i1 : (i : Int) < (l.length : Int) := by omega
              obtain ⟨g2, o2, rfl, hg2, hc2⟩ := HLc.out (by intro e; rw [e] at hil; simp at hil)
              have c0 := cell_below' (hc2 i hil).1 (below_then G16 hB)
              have HC0 := hid1 fun (V : World) (gV : Below w16.heap.size w16 V) => cell_below' (hc2 i hil).1 (below_then G16 gV)
              have hout := (HSm.out _ (List.getElem_mem hil)).out
              unfold Bf.allS at HSn
              rw [Bf.getD_at hil] at HSn
              clear HLc hc2
              generalize l[i].out = x at *
              obtain ⟨b, c, hbc⟩ : ∃ b c, Bf.want Af.actO fs l x = (b, c) := ⟨_, _, rfl⟩
              rw [hbc] at HTk HSn
              clear hbc
              simp only at HTk HSn
              have hBz := hB.size
              by_cases hc0 : c = 0
              · subst hc0
                replace HTk : Hid (Calls Tryz.prog 77 #[Ptr M, .slice (some ⟨g2, o2, none⟩) l.length cl, .string (ba x)] wr fun e w' => e = .returned (.tuple #[.string (ba b), .int .i64 0]) ∧ Below wr.heap.size wr w') := hid1 HTk.out
                rw [if_pos rfl] at HSn
                go_wp2_with fail
                refine HTk.out.mono ?_
                rintro e w20 ⟨rfl, g20⟩
                have hB20 := hB.trans (g20.mono hBz)
                have HP20 := hid1 (rPutK_calls (HX.out.below g20) HWk.out x b (by omega))
                rw [← HSn.out] at HP20
                have e20 := HE0.out w20 hB20
                have c20 := HC0.out w20 hB20
                have hBz20 := hB20.size
                clear HTk HX HSn HWk
                go_wp2_with fail
                refine HP20.out.mono ?_
                rintro e w21 ⟨rfl, ⟨v21, -, hX21⟩, g21, -⟩
                have HX21 := hid1 hX21
                have hB21 := hB20.trans g21
                clear HP20 hX21 g21
                go_wp2
                exact ⟨⟨k + 1, v21, by omega, by go_num, HX21.out, hB21⟩, by simp [intOf]; omega⟩
              · rw [if_neg hc0] at HSn
                have cne : ((c : Int) == 0) = false := by simp; omega
                go_wp2_with fail
                refine HTk.out.mono ?_
                rintro e w20 ⟨rfl, g20⟩
                have hB20 := hB.trans (g20.mono hBz)
                have HX20 := hid1 (HX.out.below g20)
                rw [← HSn.out] at HX20
                clear HTk HX HSn HWk
                go_wp2
                exact ⟨⟨k + 1, vx, by omega, by go_num, HX20.out, hB20⟩, by simp [intOf]; omega⟩
            · have k1 : (ord.length : Int) ≤ (k : Int) := by omega
              rw [List.take_of_length_le (by omega)] at hX hwl
              have GA := below_then G16 hB
              have hsz : ∀ f ∈ Bf.allW fs l ord, f.1.length ≤ 1000 ∧ f.2.length ≤ 2000 := fun f hf => ⟨Bf.allW_len HSm.out HFl.out ord f hf, (hwl.each f hf).2⟩
              have hsf : ∀ f ∈ fs, f.1.length ≤ 1000 ∧ f.2.length ≤ 2000 := fun f hf => ⟨HFl.out f hf, (HBo16.out.well.each f hf).2⟩
              have HT1 := hid1 (Text_calls (HTa16.out.below hB) (pow_below HPw.out GA) hwl.rises (by have := hwl.few; omega) hsz)
              have HT2 := hid1 fun (V : World) (gV : Below wr.heap.size wr V) => rText_calls (hX.below gV) hwl
              have HT3 := hid1 fun (V : World) (gV : Below w16.heap.size w16 V) => Text_calls (HBo16.out.t.below gV) (pow_below HPw.out (below_then G16 gV)) HBo16.out.well.rises (by have := HBo16.out.well.few; omega) hsf
              have HT4 := hid1 fun (V : World) (gV : Below w16.heap.size w16 V) => rText_calls (HBo16.out.m.below gV) HBo16.out.well
              have hBz := hB.size
              clear hX hwl HX hsz hsf HTd HLt HOc HLc
              generalize Tf.textT (Bf.allW fs l ord) = tx at *
              generalize Tf.textT fs = tf at *
              go_wp2_with fail
              refine HT1.out.mono ?_
              rintro e w22 ⟨rfl, g22⟩
              have HT2' := hid1 (HT2.out w22 g22)
              clear HT1 HT2
              go_wp2_with fail
              refine HT2'.out.mono ?_
              rintro e w23 ⟨rfl, g23⟩
              have g223 := below_then g22 g23
              have hB23 := hB.trans (g223.mono hBz)
              have HT3' := hid1 (HT3.out w23 hB23)
              clear HT2' HT3
              go_wp2_with fail
              refine HT3'.out.mono ?_
              rintro e w24 ⟨rfl, g24⟩
              have hB24 := hB23.trans (g24.mono hB23.size)
              have HT4' := hid1 (HT4.out w24 hB24)
              clear HT3' HT4
              go_wp2_with fail
              refine HT4'.out.mono ?_
              rintro e w25 ⟨rfl, g25⟩
              have hB25 := hB24.trans (g25.mono hB24.size)
              have G25 := below_then G16 hB25
              clear HT4'
              go_wp2
              go_ret
              exact ⟨rfl, G25⟩
    · go_wp2_with fail
      refine HTo.out.mono ?_
      rintro e w89 ⟨rfl, g89⟩
      have G89 := below_then G8 g89
      have HBo89 := hid1 (HBo8.out.below g89)
      have HC9 := hid1 (HCd.out w89 G89)
      clear HTo HCd HBo8 g89 b0 b1 G8 hw8
      go_wp2_with fail
      refine HC9.out.mono ?_
      rintro e w9 ⟨rfl, g9⟩
      have G9 := below_then G89 g9
      have HBo9 := hid1 (HBo89.out.below g9)
      clear HC9 HBo89 g9 G89
      have HO9 := hid1 (HOr.out w9 G9 (by omega) fun x hx => (HSm.out x hx).many)
      clear HOr
      go_wp2_with fail
      refine HO9.out.mono ?_
      rintro e w10 ⟨v10, rfl, hR10, g10⟩
      have G10 := below_then G9 g10
      have HBo10 := hid1 (HBo9.out.below g10)
      have HAl := hid1 (wAll_calls (HW.out.below G10) (HE.out.below G10).terr HBo10.out.t HBo10.out.well HFl.out v10 l hR10 (by omega) HSm.out)
      obtain ⟨p10, c10, rfl, -⟩ := hR10
      clear HO9 HBo9 g10 G9
      go_wp2_with fail
      refine HAl.out.mono ?_
      rintro e w11 ⟨av, ev2, rfl, g11, hA11⟩
      have G11 := below_then G10 g11
      have HBo11 := hid1 (HBo10.out.below g11)
      have HS11 := hid1 (HSf.out w11 G11 (by omega) HSm.out)
      have hz10 := G10.size
      clear HAl HBo10 g11 HSf
      rcases hA11 with ⟨hf, rfl, hEv2⟩ | ⟨hf, hnone, rfl, rfl⟩ | ⟨hf, ord, ab, oo, hsome, rfl, rfl, hTa⟩
      · have HEv := hid1 hEv2
        obtain ⟨t2, x2, rfl⟩ := hEv2.some hf
        obtain ⟨fc2, fa2, hfe⟩ : ∃ fc2 fa2, Ru.fault l = (fc2, fa2) := ⟨_, _, rfl⟩
        rw [hfe] at HS11 HEv hf
        have fpos2 : (0 : Int) < (fc2 : Int) := by have : fc2 ≠ 0 := hf; omega
        have fne2 : ((fc2 : Int) == 0) = false := by simp; omega
        clear hfe hf hEv2 HOo HLc HBo11
        simp only at HS11
        go_wp2_with fail
        refine HS11.out.mono ?_
        rintro e w12 ⟨rfl, g12⟩
        have gB : Below w12.heap.size w12 (w12.alloc (.cells #[.int .i64 (fc2 : Nat), .int .i64 fa2] 75)) := (Below.refl _ w12).alloc (Nat.le_refl _) _
        have G13 := below_then G11 (below_then g12 gB)
        have HFb := hid1 fun V (gV : Below (w12.alloc (.cells #[.int .i64 (fc2 : Nat), .int .i64 fa2] 75)).heap.size (w12.alloc (.cells #[.int .i64 (fc2 : Nat), .int .i64 fa2] 75)) V) => faulted2_calls (HE.out.below (below_then G13 gV)) (.iface t2 x2) (fc2, fa2) (HEv.out.below (below_then (below_then g12 gB) gV))
        have d0 : (w12.alloc (.cells #[.int .i64 (fc2 : Nat), .int .i64 fa2] 75)).cell? ⟨w12.heap.size, 0, none⟩ = some (.int .i64 (fc2 : Nat)) := cell_of_row (j := 0) (row_newW w12 _) rfl
        have d1 : (w12.alloc (.cells #[.int .i64 (fc2 : Nat), .int .i64 fa2] 75)).cell? ⟨w12.heap.size, 1, none⟩ = some (.int .i64 fa2) := cell_of_row (j := 1) (row_newW w12 _) rfl
        clear HS11 g12 gB
        generalize hw13 : w12.alloc (.cells #[.int .i64 (fc2 : Nat), .int .i64 fa2] 75) = w13 at *
        have gC : Below w13.heap.size w13 (w13.alloc (.cells #[] 3)) := (Below.refl _ w13).alloc (Nat.le_refl _) _
        have HF14 := hid1 (HFb.out _ gC)
        have G14 := below_then G13 gC
        have dd0 := cell_below' d0 gC
        have dd1 := cell_below' d1 gC
        clear HFb
        go_wp2_with fail
        refine HF14.out.mono ?_
        rintro e w15 ⟨rfl, g15⟩
        have G15 := below_then G14 g15
        clear HF14
        go_wp2
        go_ret
        exact ⟨rfl, G15⟩
      · have hfz := Ru.fault_zero hf
        rw [hfz] at HS11
        replace HS11 : Hid (Calls Tryz.prog 45 #[.slice pl l.length cl] w11 fun e w' => e = .returned (.agg #[.int .i64 0, .int .i64 (-1)]) ∧ Below w11.heap.size w11 w') := hid1 HS11.out
        obtain ⟨t9, x9, e9⟩ : ∃ t x, erOf es 9 = .iface t x := ⟨_, _, rfl⟩
        have HEv : Hid (∀ V, ErrV V es (.iface t9 x9) (9, -1)) := hid1 fun V => by rw [← e9]; exact ErrV.bare (by omega)
        have HNn := hid1 hnone
        rw [e9]
        clear hfz hf e9 hnone HLc HBo11
        go_wp2_with fail
        refine HS11.out.mono ?_
        rintro e w12 ⟨rfl, g12⟩
        have gB : Below w12.heap.size w12 (w12.alloc (.cells #[.int .i64 0, .int .i64 (-1)] 75)) := (Below.refl _ w12).alloc (Nat.le_refl _) _
        have G13 := below_then G11 (below_then g12 gB)
        have HR13 := hid1 (row_newW w12 (.cells #[.int .i64 0, .int .i64 (-1)] 75))
        have z12 := (below_then G11 g12).size
        clear HS11 g12 gB
        generalize hw13 : w12.alloc (.cells #[.int .i64 0, .int .i64 (-1)] 75) = w13 at *
        have gC : Below w13.heap.size w13 (w13.alloc (.cells #[] 3)) := (Below.refl _ w13).alloc (Nat.le_refl _) _
        have G14 := below_then G13 gC
        have r14 := row_below HR13.out gC
        have HR14 := hid1 r14
        have d0 := cell_of_row (j := 0) r14 rfl
        have HAo := hid1 (AllOf_calls l.length (by omega) (w13.alloc (.cells #[] 3)))
        clear HR13 r14 G13
        generalize hw14 : w13.alloc (.cells #[] 3) = w14 at *
        clear gC
        go_wp2_with fail
        refine HAo.out.mono ?_
        rintro e w15 ⟨go15, rfl, hOw, g15⟩
        have G15 := below_then G14 g15
        have HO15 := hid1 (HOo.out w15 G15 (by omega) (fun x hx => by have := (HSm.out x hx).many; omega) go15 l.length (fun _ => true) fun j hj => hOw.cell hj)
        clear HAo hOw HOo
        go_wp2_with fail
        refine HO15.out.mono ?_
        rintro e w16 ⟨u16, b16, rfl, g16, h16⟩
        have G16 := below_then G15 g16
        have HB16 := hid1 (rBare_calls w16 9)
        rcases h16 with ⟨rfl, rfl, -⟩ | ⟨oq, -, hoq, -⟩
        · clear HO15
          go_wp2_with fail
          refine HB16.out.mono ?_
          rintro e w17 ⟨rfl, g17⟩
          have G17 := below_then G16 g17
          have g14 := below_then (below_then g15 g16) g17
          have rr := row_below HR14.out g14
          have y0 := cell_of_row (j := 0) rr rfl
          have f0 : w17.frozen? ⟨w12.heap.size, 0, none⟩ = false := by simp [World.frozen?, rr]
          obtain ⟨w17', hw17⟩ : ∃ w17', w17.setCell ⟨w12.heap.size, 0, none⟩ (.int .i64 9) = w17' := ⟨_, rfl⟩
          have rr' : w17'.heap[w12.heap.size]? = some (.cells #[.int .i64 9, .int .i64 (-1)] 75) := by
            rw [← hw17, heap_setCell_same w17 w12.heap.size 0 _ _ (.int .i64 9) rr]; rfl
          have y1 := cell_of_row (j := 1) rr' rfl
          have f1 : w17'.frozen? ⟨w12.heap.size, 1, none⟩ = false := by simp [World.frozen?, rr']
          obtain ⟨w18, hw18⟩ : ∃ w18, w17'.setCell ⟨w12.heap.size, 1, none⟩ (.int .i64 (-1)) = w18 := ⟨_, rfl⟩
          have r18 : w18.heap[w12.heap.size]? = some (.cells #[.int .i64 9, .int .i64 (-1)] 75) := by
            rw [← hw18, heap_setCell_same w17' w12.heap.size 1 _ _ (.int .i64 (-1)) rr']; rfl
          have q0 := cell_of_row (j := 0) r18 rfl
          have q1 := cell_of_row (j := 1) r18 rfl
          have G18 : Below W.heap.size W w18 := by
            rw [← hw18, ← hw17]
            exact (G17.setCell (p := ⟨w12.heap.size, 0, none⟩) z12 _).setCell (p := ⟨w12.heap.size, 1, none⟩) z12 _
          have HF18 : Hid (Calls Tryz.prog 70 #[.iface t9 x9, .agg #[.int .i64 9, .int .i64 (-1)]] w18 fun e w' => e = .returned (.bool true) ∧ Below w18.heap.size w18 w') := hid1 (faulted2_calls (HE.out.below G18) (.iface t9 x9) (9, -1) (HEv.out w18))
          clear HB16 HR14 rr rr' r18 g14 g15 g16 g17 G14 G15 G16 G17 hw13 hw14 d0
          go_wp2_with fail
          refine HF18.out.mono ?_
          rintro e w19 ⟨rfl, g19⟩
          have G19 := below_then G18 g19
          clear HF18
          go_wp2
          go_ret
          exact ⟨rfl, G19⟩
        · have := HNn.out
          rw [show Ru.order l allB1 = Ru.order l (fun _ => true) from rfl, hoq] at this
          cases this
      · have hfz := Ru.fault_zero hf
        rw [hfz] at HS11
        replace HS11 : Hid (Calls Tryz.prog 45 #[.slice pl l.length cl] w11 fun e w' => e = .returned (.agg #[.int .i64 0, .int .i64 (-1)]) ∧ Below w11.heap.size w11 w') := hid1 HS11.out
        obtain ⟨h40, hAp⟩ := Ru.fault_ok hf
        obtain ⟨ht, hall⟩ := Ru.order_some hsome
        obtain ⟨hnd, hlt⟩ := Ru.order_nodup hsome
        have hol : ord.length ≤ l.length := Bf.order_len hnd hlt
        have HSo := hid1 hsome
        have HLt := hid1 hlt
        have HTa := hid1 hTa
        have HTd : Hid (∀ i ∈ ord, ∀ hi : i < l.length, WantTold fs l l[i].out) := hid1 fun i hi hil => WantOf_told HAct.out (by have := HBo11.out.well.few; omega) HBo11.out.well.rises HBy.out h40 HSm.out ht hnd hlt l[i].out fun j hj => by
          obtain ⟨hk, ek⟩ := Bf.mkr_of hj
          have := hAp j i hk hil ek
          rw [this]; exact hi
        clear hfz hf hsome hTa ht hall hnd hlt hAp
        go_wp2_with fail
        refine HS11.out.mono ?_
        rintro e w12 ⟨rfl, g12⟩
        have gB : Below w12.heap.size w12 (w12.alloc (.cells #[.int .i64 0, .int .i64 (-1)] 75)) := (Below.refl _ w12).alloc (Nat.le_refl _) _
        have g13 := below_then g12 gB
        have HR13 := hid1 (row_newW w12 (.cells #[.int .i64 0, .int .i64 (-1)] 75))
        clear HS11 g12 gB
        generalize hw13 : w12.alloc (.cells #[.int .i64 0, .int .i64 (-1)] 75) = w13 at *
        have gC : Below w13.heap.size w13 (w13.alloc (.cells #[] 3)) := (Below.refl _ w13).alloc (Nat.le_refl _) _
        have g14 := below_then g13 gC
        have r14 := row_below HR13.out gC
        have HR14 := hid1 r14
        have d0 := cell_of_row (j := 0) r14 rfl
        have HAo := hid1 (AllOf_calls l.length (by omega) (w13.alloc (.cells #[] 3)))
        clear HR13 r14 g13
        generalize hw14 : w13.alloc (.cells #[] 3) = w14 at *
        clear gC
        go_wp2_with fail
        refine HAo.out.mono ?_
        rintro e w15 ⟨go15, rfl, hOw, g15⟩
        have G15 := below_then G11 (below_then g14 g15)
        have HO15 := hid1 (HOo.out w15 G15 (by omega) (fun x hx => by have := (HSm.out x hx).many; omega) go15 l.length (fun _ => true) fun j hj => hOw.cell hj)
        clear HAo hOw HOo
        go_wp2_with fail
        refine HO15.out.mono ?_
        rintro e w16 ⟨u16, b16, rfl, g16, h16⟩
        have g1416 := below_then g15 g16
        have d16 := cell_of_row (j := 0) (row_below HR14.out g1416) rfl
        have g1116 := below_then g14 g1416
        have G16 := below_then G11 g1116
        rcases h16 with ⟨-, -, hoq⟩ | ⟨oq, rfl, hoq, hrq, -, -⟩
        · have := HSo.out
          rw [show Ru.order l allB1 = Ru.order l (fun _ => true) from rfl, hoq] at this
          cases this
        · obtain rfl : ord = oq := by
            have := HSo.out
            rw [show Ru.order l allB1 = Ru.order l (fun _ => true) from rfl, hoq] at this
            exact (Option.some.inj this).symm
          have HBo16 := hid1 (HBo11.out.below g1116)
          have HTa16 := hid1 (HTa.out.below g1116)
          have HCp := hid1 (CopyTree_calls HBo16.out.m (by have := HBo16.out.well.few; omega))
          obtain ⟨po, co, rfl, hoc⟩ := hrq.ni
          have HOc := hid1 hoc
          have zo : (ord.length : Int) ≤ 40 := by omega
          have zl : (l.length : Int) ≤ 40 := by omega
          clear HO15 HR14 g14 g15 g16 g1416 g1116 G15 hrq hoc hoq HSo HBo11 HTa hw13 hw14 d0
          go_wp2_with fail
          refine HCp.out.mono ?_
          rintro e w17 ⟨tv, rfl, hX17, g17⟩
          have HX17 := hid1 hX17
          clear HCp hX17 d16
          go_wp2
          go_loopw [20] (fun iv wr => ∃ (k : Nat) (v : Value), k ≤ ord.length ∧ iv = .int .i64 k ∧ RTreeAt w16.heap.size wr w16.heap.size (Bf.allW fs l (ord.take k)) v ∧ Below w16.heap.size w16 wr) (fun iv _ => ord.length - (intOf iv).toNat)
          case atStart => exact ⟨0, tv, Nat.zero_le _, rfl, HX17.out, g17⟩
          case round =>
            clear HX17 g17
            obtain ⟨k, vx, hk, rfl, hX, hB⟩ := hrel
            have k0 : (0 : Int) ≤ (k : Int) := by omega
            have HX := hid1 hX
            have hwl := Bf.allW_well HBo16.out.well (l := l) (fs := fs) (ord.take k)
            by_cases hklt : k < ord.length
            · have k1 : (k : Int) < (ord.length : Int) := by omega
              obtain ⟨g, oi, rfl, hg, hc⟩ := HOc.out (by intro e; rw [e] at hklt; simp at hklt)
              have e0 := (hB.cell (p := ⟨g, oi + k, none⟩) hg).trans (hc k hklt)
              have HE0 := hid1 fun (V : World) (gV : Below w16.heap.size w16 V) => (gV.cell (p := ⟨g, oi + k, none⟩) hg).trans (hc k hklt)
              have hil : ord[k] < l.length := HLt.out _ (List.getElem_mem hklt)
              have HTk := hid1 (HTd.out ord[k] (List.getElem_mem hklt) hil wr _ M uT _ (HBo16.out.m.below hB) (HRr.out.below (below_then G16 hB)))
              have htk : ord.take (k + 1) = ord.take k ++ [ord[k]] := List.take_succ_eq_append_getElem hklt
              have HSn : Hid (Bf.allW fs l (ord.take (k + 1)) = Bf.allS fs l (Bf.allW fs l (ord.take k)) ord[k]) := hid1 (by rw [htk, Bf.allW_snoc])
              have HWk := hid1 hwl
              clear hc htk HOc hX HLt HTd hwl
              generalize ord[k] = i at *
              have i0 : (0 : Int) ≤ (i : Int) := by omega
              have i1 : (i : Int) < (l.length : Int) := by omega
              obtain ⟨g2, o2, rfl, hg2, hc2⟩ := HLc.out (by intro e; rw [e] at hil; simp at hil)
              have c0 := cell_below' (hc2 i hil).1 (below_then G16 hB)
              have HC0 := hid1 fun (V : World) (gV : Below w16.heap.size w16 V) => cell_below' (hc2 i hil).1 (below_then G16 gV)
              have hout := (HSm.out _ (List.getElem_mem hil)).out
              unfold Bf.allS at HSn
              rw [Bf.getD_at hil] at HSn
              clear HLc hc2
              generalize l[i].out = x at *
              obtain ⟨b, c, hbc⟩ : ∃ b c, Bf.want Af.actO fs l x = (b, c) := ⟨_, _, rfl⟩
              rw [hbc] at HTk HSn
              clear hbc
              simp only at HTk HSn
              have hBz := hB.size
              by_cases hc0 : c = 0
              · subst hc0
                replace HTk : Hid (Calls Tryz.prog 77 #[Ptr M, .slice (some ⟨g2, o2, none⟩) l.length cl, .string (ba x)] wr fun e w' => e = .returned (.tuple #[.string (ba b), .int .i64 0]) ∧ Below wr.heap.size wr w') := hid1 HTk.out
                rw [if_pos rfl] at HSn
                go_wp2_with fail
                refine HTk.out.mono ?_
                rintro e w20 ⟨rfl, g20⟩
                have hB20 := hB.trans (g20.mono hBz)
                have HP20 := hid1 (rPutK_calls (HX.out.below g20) HWk.out x b (by omega))
                rw [← HSn.out] at HP20
                have e20 := HE0.out w20 hB20
                have c20 := HC0.out w20 hB20
                have hBz20 := hB20.size
                clear HTk HX HSn HWk
                go_wp2_with fail
                refine HP20.out.mono ?_
                rintro e w21 ⟨rfl, ⟨v21, -, hX21⟩, g21, -⟩
                have HX21 := hid1 hX21
                have hB21 := hB20.trans g21
                clear HP20 hX21 g21
                go_wp2
                exact ⟨⟨k + 1, v21, by omega, by go_num, HX21.out, hB21⟩, by simp [intOf]; omega⟩
              · rw [if_neg hc0] at HSn
                have cne : ((c : Int) == 0) = false := by simp; omega
                go_wp2_with fail
                refine HTk.out.mono ?_
                rintro e w20 ⟨rfl, g20⟩
                have hB20 := hB.trans (g20.mono hBz)
                have HX20 := hid1 (HX.out.below g20)
                rw [← HSn.out] at HX20
                clear HTk HX HSn HWk
                go_wp2
                exact ⟨⟨k + 1, vx, by omega, by go_num, HX20.out, hB20⟩, by simp [intOf]; omega⟩
            · have k1 : (ord.length : Int) ≤ (k : Int) := by omega
              rw [List.take_of_length_le (by omega)] at hX hwl
              have GA := below_then G16 hB
              have hsz : ∀ f ∈ Bf.allW fs l ord, f.1.length ≤ 1000 ∧ f.2.length ≤ 2000 := fun f hf => ⟨Bf.allW_len HSm.out HFl.out ord f hf, (hwl.each f hf).2⟩
              have hsf : ∀ f ∈ fs, f.1.length ≤ 1000 ∧ f.2.length ≤ 2000 := fun f hf => ⟨HFl.out f hf, (HBo16.out.well.each f hf).2⟩
              have HT1 := hid1 (Text_calls (HTa16.out.below hB) (pow_below HPw.out GA) hwl.rises (by have := hwl.few; omega) hsz)
              have HT2 := hid1 fun (V : World) (gV : Below wr.heap.size wr V) => rText_calls (hX.below gV) hwl
              have HT3 := hid1 fun (V : World) (gV : Below w16.heap.size w16 V) => Text_calls (HBo16.out.t.below gV) (pow_below HPw.out (below_then G16 gV)) HBo16.out.well.rises (by have := HBo16.out.well.few; omega) hsf
              have HT4 := hid1 fun (V : World) (gV : Below w16.heap.size w16 V) => rText_calls (HBo16.out.m.below gV) HBo16.out.well
              have hBz := hB.size
              clear hX hwl HX hsz hsf HTd HLt HOc HLc
              generalize Tf.textT (Bf.allW fs l ord) = tx at *
              generalize Tf.textT fs = tf at *
              go_wp2_with fail
              refine HT1.out.mono ?_
              rintro e w22 ⟨rfl, g22⟩
              have HT2' := hid1 (HT2.out w22 g22)
              clear HT1 HT2
              go_wp2_with fail
              refine HT2'.out.mono ?_
              rintro e w23 ⟨rfl, g23⟩
              have g223 := below_then g22 g23
              have hB23 := hB.trans (g223.mono hBz)
              have HT3' := hid1 (HT3.out w23 hB23)
              clear HT2' HT3
              go_wp2_with fail
              refine HT3'.out.mono ?_
              rintro e w24 ⟨rfl, g24⟩
              have hB24 := hB23.trans (g24.mono hB23.size)
              have HT4' := hid1 (HT4.out w24 hB24)
              clear HT3' HT4
              go_wp2_with fail
              refine HT4'.out.mono ?_
              rintro e w25 ⟨rfl, g25⟩
              have hB25 := hB24.trans (g25.mono hB24.size)
              have G25 := below_then G16 hB25
              clear HT4'
              go_wp2
              go_ret
              exact ⟨rfl, G25⟩
end Go.Proofs.YtmhipgompplkdaaGreatDoor
