import Derived.Test.YtmhipgompplkdaaGreatDoorWL42
import Derived.Test.YtmhipgompplkdaaGreatDoorWL47
import Derived.Test.YtmhipgompplkdaaGreatDoorWL33
import Derived.Test.YtmhipgompplkdaaGreatDoorWL19
import Derived.Deep.RegionHeld3
namespace Go.Proofs.YtmhipgompplkdaaGreatDoor
open Go.RowKit Go.Shelf Go.Lib
set_option maxRecDepth 100000 in
set_option maxHeartbeats 32000000 in
theorem WantLeaves_calls {es : Nat → Addr} {W : World} (hW : WantW W es) (hE : TErr W (erOf es)) (vf : Value) (fl : Tf.Fs) (hF : FIRow W vf fl) (vm : Value) (ml : Tf.Fs) (hM : FIRow W vm ml) (vl : Value) (l : List Ru) (hR : RRow W vl l) (out : List UInt8) :
    Calls Tryz.prog 11 #[vf, vm, vl, .string (ba out)] W fun e w' => e = .returned (.bool true) ∧ Below W.heap.size W w' := by
  have HW := hid1 hW
  have HE := hid1 hE
  have HWd := hid1 (wanted_calls hW hE)
  have HLf := hid1 fun V (g : Below W.heap.size W V) => longFiles_calls (w := V) vf fl (hF.below g)
  have HLm := hid1 fun V (g : Below W.heap.size W V) => longFiles_calls (w := V) vm ml (hM.below g)
  have HLr := hid1 fun V (g : Below W.heap.size W V) => LongRules_any (w := V) vl l 12 (by omega) (hR.below g)
  have HFt := hid1 fun V (g : Below W.heap.size W V) (hs : ShortF fl) => fileTree_calls (w := V) (hE.below g) vf fl (hF.below g) hs
  have HOr := hid1 fun V (g : Below W.heap.size W V) (hl : l.length ≤ 1000) (h12 : ∀ x ∈ l, x.ins.length ≤ 12) => OwnRules_calls (w := V) vl l hl (hR.below g) h12
  obtain ⟨pl, cl, uv, rfl, huv⟩ := hR.vals
  have HUv := hid1 huv
  obtain ⟨pf, cf, rfl, -⟩ := hF
  obtain ⟨pm, cm, rfl, hmc⟩ := hM
  have HMc := hid1 hmc
  clear hW hE huv hmc hR
  go_enter Tryz.func11, Tryz.ntmps11
  go_wp2_with fail
  refine HWd.out.mono ?_
  rintro e w1 ⟨rfl, g1⟩
  have HL1 := hid1 (HLf.out w1 g1)
  clear HWd HLf
  go_wp2_with fail
  refine HL1.out.mono ?_
  rintro e w2 ⟨b, rfl, rfl, hb⟩
  clear HL1
  cases b with
  | true =>
    clear hb HFt HOr HLr HLm HUv HMc
    go_wp2
    go_ret
    exact ⟨rfl, g1⟩
  | false =>
  have hs := hb.resolve_left (by simp)
  have HL2 := hid1 (HLm.out w2 g1)
  clear HLm hb
  go_wp2_with fail
  refine HL2.out.mono ?_
  rintro e w2 ⟨b, rfl, rfl, hb⟩
  clear HL2
  cases b with
  | true =>
    clear hb HFt HOr HLr HUv HMc hs
    go_wp2
    go_ret
    exact ⟨rfl, g1⟩
  | false =>
  have hsm2 := hb.resolve_left (by simp)
  have HL3 := hid1 (HLr.out w2 g1)
  clear HLr hb
  go_wp2_with fail
  refine HL3.out.mono ?_
  rintro e w3 ⟨r, rfl, rfl, hr⟩
  clear HL3
  rcases hr with rfl | ⟨rfl, hlen, hsm⟩
  · clear HFt HOr HUv HMc hs hsm2
    go_wp2
    go_ret
    exact ⟨rfl, g1⟩
  by_cases ho : 100 < out.length
  · have zo : (100 : Int) < (out.length : Int) := by omega
    clear HFt HOr HUv HMc hs hsm2
    go_wp2
    go_ret
    exact ⟨rfl, g1⟩
  have zo : (out.length : Int) ≤ 100 := by omega
  have HF3 := hid1 (HFt.out w3 g1 hs)
  have HSm := hid1 hsm
  have hl41 : l.length ≤ 41 := by omega
  have HSh := hid1 hs
  have hmfew := hsm2.few
  have HSm2 := hid1 hsm2
  clear hsm hlen hsm2
  go_wp2_with fail
  refine HF3.out.mono ?_
  rintro e w4 ⟨T, M, oT, uT, rfl, hBo, g4⟩
  have G4 := below_then g1 g4
  have HT4 := hid1 hBo.t
  have hTl := hBo.t.lt
  have HTm : Hid (∀ j, oT = some j → j < w4.heap.size) := hid1 fun j e => hBo.t.map_lt e
  have HWl := hid1 hBo.well
  have HF4 := hid1 (HFt.out w4 G4 hs)
  have hz34 := g4.size
  have hz3 := g1.size
  clear HF3 hBo HFt hs g4
  go_wp2_with fail
  refine HF4.out.mono ?_
  rintro e w5 ⟨T2, M2, oU, uU, rfl, hBo5, g5⟩
  have G5 := below_then G4 g5
  have HT5 := hid1 (HT4.out.below g5)
  have HU5 := hid1 hBo5.t
  have hfsl : ∀ f ∈ Tf.taken fl, f.1.length ≤ 1000 := fun f hf => by
    have := HSh.out.path f (Tf.taken_mem _ f hf)
    omega
  have HFl := hid1 hfsl
  have HBy : Hid (∀ x b, Tf.get (Tf.taken fl) x = some b → b.length ≤ 2000) := hid1 fun x b hb => (HWl.out.each _ (Bf.get_mem hb)).2
  have HO5 := hid1 (HOr.out w5 G5 (by omega) fun x hx => (HSm.out x hx).many)
  have hz45 := g5.size
  have HB45 := hid1 g5
  clear HF4 HT4 hBo5 g5 g1 hfsl HSh
  generalize Tf.taken fl = fs at *
  go_wp2_with fail
  refine HO5.out.mono ?_
  rintro e w6 ⟨v6, rfl, hR6, g6⟩
  have gA : Below w6.heap.size w6 (w6.alloc (.cells #[.string (ba out)] 9)) := (Below.refl _ w6).alloc (Nat.le_refl _) _
  have g67 := below_then g6 gA
  have G7 := below_then G5 g67
  have HX : Hid (XRow (w6.alloc (.cells #[.string (ba out)] 9)) (.slice (some ⟨w6.heap.size, 0, none⟩) 1 1) [out]) := hid1 ⟨_, 1, rfl, by simp, (fun h => by cases h), fun _ => ⟨_, 0, rfl, by simp, fun j hj => by
    obtain rfl : j = 0 := by simpa using hj
    exact cell_of_row (j := 0) (row_newW w6 _) rfl⟩⟩
  have HN7 := hid1 (gNeeds_calls (HW.out.below G7).g.s (HW.out.below G7).none v6 l (hR6.below gA) (by omega) HSm.out _ [out] HX.out (by simp))
  obtain ⟨p6, c6, rfl, -⟩ := hR6
  clear HO5 HX g6 gA
  go_wp2_with fail
  refine HN7.out.mono ?_
  rintro e w8 ⟨u8, ev, rfl, g8, hT8⟩
  have G8 := below_then G7 g8
  have g58 := below_then g67 g8
  clear HN7 g67 g8 G7
  rcases hT8 with ⟨hf, hEv, pn, cn, rfl⟩ | ⟨hf, k, hk, h1, h2, hEv, pn, cn, rfl⟩ | ⟨hf, h1, rfl, f, hN0, hrw⟩
  · obtain ⟨t, x, rfl⟩ := hEv.some hf
    clear hf hEv HOr HUv HMc
    go_wp2
    go_ret
    exact ⟨rfl, G8⟩
  · obtain ⟨t, x, rfl⟩ := hEv.some (by simp)
    clear hf hEv HOr HUv HMc h1 h2
    go_wp2
    go_ret
    exact ⟨rfl, G8⟩
  · obtain ⟨ns, hns⟩ : ∃ ns, ns = (List.range l.length).filter f := ⟨_, rfl⟩
    rw [← hns] at hrw
    have hNs : Ru.Nums l out f ns := ⟨hN0, hns, hf⟩
    have HNs := hid1 hNs
    have HEx : Hid (∃ x ∈ l, x.out = out) := hid1 (h1 0 (by simp))
    have hnl := hNs.len.2
    have HT8 := hid1 (HT5.out.below g58)
    have HU8 := hid1 (HU5.out.below g58)
    have hz58 := g58.size
    have HLt : Hid (∀ i ∈ ns, i < l.length) := hid1 fun i hi => (hNs.mem.1 hi).1
    obtain ⟨h40, -⟩ := Ru.fault_ok hf
    obtain ⟨pn, cn, rfl, hnc⟩ := hrw
    have HNc := hid1 hnc
    have zn : (ns.length : Int) ≤ 40 := by omega
    have zl : (l.length : Int) ≤ 40 := by omega
    obtain ⟨i0, hi, hz0, hz1, hz2⟩ := info_parts Tryz.infoRule
    have n1 : World.ownsRow w8 w8.heap.size 90 4 (.slice none 0 0) 0 (ruCells (partV l uv [])) := World.ownsRow_nil _ _ _ _
    have HN1 := hid1 n1
    have hU8z := HU8.out.lt
    have HUm : Hid (∀ j, oU = some j → j < w8.heap.size) := hid1 fun j e => HU8.out.map_lt e
    clear hnc hNs hns hN0 h1 HT5 HU5 g58 hf n1
    go_wp2
    go_loopw [16, 17] (fun lv iv wr => ∃ k : Nat, k ≤ ns.length ∧ iv = .int .i64 k ∧ wr.ownsRow w8.heap.size 90 4 lv k (ruCells (partV l uv (ns.take k))) ∧ Below w8.heap.size w8 wr) (fun _ iv _ => ns.length - (intOf iv).toNat)
    case atStart => exact ⟨0, Nat.zero_le _, rfl, HN1.out, Below.refl _ _⟩
    case round =>
      clear HN1
      obtain ⟨k, hk, rfl, hown, hB⟩ := hrel
      have HOw := hid1 hown
      have k0 : (0 : Int) ≤ (k : Int) := by omega
      have gW := below_then G8 hB
      clear hown
      by_cases hklt : k < ns.length
      · have k1 : (k : Int) < (ns.length : Int) := by omega
        obtain ⟨g, oi, rfl, hg, hc⟩ := HNc.out (by intro e; rw [e] at hklt; simp at hklt)
        have e0 := (hB.cell (p := ⟨g, oi + k, none⟩) hg).trans (hc k hklt)
        have hil := HLt.out _ (List.getElem_mem hklt)
        have HTk : Hid (partV l uv (ns.take (k + 1)) = partV l uv (ns.take k) ++ [(l.getD ns[k] ⟨[], [], [], []⟩, uv ns[k])]) := hid1 (by rw [List.take_succ_eq_append_getElem hklt, partV_snoc])
        clear hc HNc
        generalize ns[k] = i at *
        obtain ⟨g2, o2, rfl, b0, b1, b2, b3, hu⟩ := HUv.out i hil
        have c0 := cell_below' b0 gW
        have c1 := cell_below' b1 gW
        have c2 := cell_below' b2 gW
        have c3 := cell_below' b3 gW
        rw [Bf.getD_at hil] at HTk
        obtain ⟨pu, cu, eu, -⟩ := hu
        rw [eu] at c3 HTk
        have i0' : (0 : Int) ≤ (i : Int) := by omega
        have i1 : (i : Int) < (l.length : Int) := by omega
        have di0 : decide ((i : Int) < 0) = false := by simp
        have di1 : decide (l.length ≤ i) = false := by simp; omega
        have hrow := HOw.out
        have hml : k + 1 ≤ maxLen := by unfold maxLen; omega
        have hbz := hB.size
        clear HUv b0 b1 b2 b3 HOw eu
        generalize l[i] = r at *
        go_wp2_with (first
          | (at_builtin; refine wpList_append_own _ rfl _ _ 66 rfl w8.heap.size 90 i0 (.agg #[.string ⟨#[]⟩, .string ⟨#[]⟩, .string ⟨#[]⟩, .slice none 0 0]) 4 72 Tryz.underlying66 hi hz0 hz1 hz2 rfl (by decide) _ _ _ rfl (hrow.alloc _) ⟨wr.heap.size, 0, none⟩ 1 1 [.string (ba r.out), .string (ba r.kind), .string (ba r.word), .slice pu r.ins.length cu] rfl rfl (four_new _ _ _ _ _ _ _ (by simp)) (by simp [Value.oneCell']) hml (by omega) (by simp; omega) ?_; intro v' w4' hown' hgrow _)
          | go_in)
        refine ⟨⟨k + 1, by omega, by go_num, by rw [HTk.out, ruCells_snoc]; exact hown', below_appended hB hbz hrow hgrow⟩, by simp [intOf]; omega⟩
      · have k1 : (ns.length : Int) ≤ (k : Int) := by omega
        obtain rfl : k = ns.length := by omega
        rw [List.take_length] at HOw
        have HXr : Hid (∀ V : World, Below W.heap.size W V → ∀ i (hi : i < l.length), XRow V (uv i) l[i].ins) := hid1 fun V gV i hi => by
          obtain ⟨_, _, _, _, _, _, _, h⟩ := HUv.out i hi
          exact h.below gV
        have hRp := partV_row HOw.out HLt.out (HXr.out wr gW)
        have hSp := part_small HSm.out HLt.out
        have hpl : (Ru.part l ns).length ≤ 40 := by rw [Ru.part_len]; omega
        have HOp := hid1 (OwnRules_calls u16 (Ru.part l ns) (by omega) hRp fun x hx => (hSp x hx).many)
        have HSp := hid1 hSp
        have hwz := hB.size
        obtain ⟨p16, c16, rfl⟩ := own_val HOw.out
        clear hRp hSp HNc
        go_wp2_with fail
        refine HOp.out.mono ?_
        rintro e w9 ⟨v9, rfl, hR9, g9⟩
        have G9 := below_then gW g9
        have HLv := hid1 (gLeaves_new (HW.out.below G9).g.s v9 (Ru.part l ns) hR9 (by omega) HSp.out)
        obtain ⟨p9, c9, rfl, -⟩ := hR9
        clear HOp
        go_wp2_with fail
        refine HLv.out.mono ?_
        rintro e w10 ⟨u10, ev10, rfl, g10, hT10, hNew⟩
        have G10 := below_then G9 g10
        have g810 := below_then hB (below_then g9 g10)
        clear HLv
        rcases hT10 with ⟨hf, _⟩ | ⟨hf, rfl, lv, hLv, hIr⟩
        · exact absurd (by rw [HNs.out.fault0]) hf
        · have HLvs := hid1 hLv
          have hz9 := g9.size
          have HOw10 : Hid (w10.ownsRow w8.heap.size 90 4 (.slice p16 ns.length c16) ns.length (ruCells (partV l uv ns))) := hid1 (own_same HOw.out fun j hj => (below_then g9 g10).block j (own_lt HOw.out _ hj.symm).2)
          have HP0 : Hid (PutL w10 T2 oU w4.heap.size lv fs w10 fs oU) := hid1 ⟨HU8.out.below g810, HWl.out, HFl.out, fun _ _ => rfl, fun j e => .inl e, ⟨rfl, rfl, rfl, Nat.le_refl _, fun _ _ _ => rfl⟩⟩
          have HT10 := hid1 (HT8.out.below g810)
          have HB48 := hid1 g810
          obtain ⟨p10, c10, rfl, hlc⟩ := hIr
          have hlvl : lv.length ≤ 1000000 := by have := leaves_len hLv (fun x hx => (HSp.out x hx).many) hpl; omega
          have hT2l := HU8.out.low
          have HUl : Hid (∀ j, oU = some j → w4.heap.size ≤ j) := hid1 fun j e => HU8.out.lowM e
          have HIr : Hid (∀ V : World, Only (fun j => j = T2 ∨ oU = some j) w10 V → IRow V (.slice p10 lv.length c10) lv) := hid1 fun V hV => ⟨p10, c10, rfl, fun hl => by
            obtain ⟨g, o, rfl, hg, hc⟩ := hlc hl
            have hgn := hNew ⟨g, o, none⟩ lv.length c10 rfl
            simp only at hgn
            have h1 := hB.size
            refine ⟨g, o, rfl, Nat.lt_of_lt_of_le hg hV.size, fun j hj => hV.cell (hc j hj) fun hs => ?_⟩
            simp only at hs
            rcases hs with e | e
            · omega
            · have := HUm.out g e
              omega⟩
          clear HOw HT8 HU8 hLv hlc hNew g9 g10 g810
          go_wp2
          go_loopw [19] (fun iv wr => ∃ (k : Nat) (fs' : Tf.Fs) (o' : Option Nat), k ≤ ml.length ∧ iv = .int .i64 k ∧ PutL w10 T2 oU w4.heap.size lv fs wr fs' o') (fun iv _ => ml.length - (intOf iv).toNat)
          case atStart => exact ⟨0, fs, oU, Nat.zero_le _, rfl, HP0.out⟩
          case round =>
            clear HP0
            obtain ⟨k, fs', o', hk, rfl, hPl⟩ := hrel
            have HPl := hid1 hPl
            have k0 : (0 : Int) ≤ (k : Int) := by omega
            have hzB : ∀ j, (j = T2 ∨ oU = some j) → w4.heap.size ≤ j := fun j hj => by
              rcases hj with e | e
              · omega
              · exact HUl.out j e
            have gB : Below w4.heap.size w10 wr := hPl.only.below hzB (by have := HB48.out.size; have := hB.size; omega)
            have gW2 : Below W.heap.size W wr := G10.trans (gB.mono (by have := G4.size; omega))
            have zm : (ml.length : Int) ≤ 30 := by omega
            clear hPl
            by_cases hklt : k < ml.length
            · have k1 : (k : Int) < (ml.length : Int) := by omega
              obtain ⟨g, oi, rfl, hg, hc⟩ := HMc.out (by intro e; rw [e] at hklt; simp at hklt)
              have d0 := (gW2.cell (p := ⟨g, oi + k * 2, none⟩) hg).trans (hc k hklt).1
              have d1 := (gW2.cell (p := ⟨g, oi + k * 2 + 1, none⟩) hg).trans (hc k hklt).2
              have HD := hid1 fun (V : World) (gV : Below W.heap.size W V) => And.intro ((gV.cell (p := ⟨g, oi + k * 2, none⟩) hg).trans (hc k hklt).1) ((gV.cell (p := ⟨g, oi + k * 2 + 1, none⟩) hg).trans (hc k hklt).2)
              have hpl2 := HSm2.out.path _ (List.getElem_mem hklt)
              have HIx := hid1 (rIndex_calls _ lv ml[k].1 (HIr.out wr HPl.out.only) hlvl)
              clear hc HMc
              generalize ml[k] = y at *
              obtain ⟨y1, y2⟩ := y
              simp only at d0 d1 HD hpl2 HIx
              go_wp2_with fail
              refine HIx.out.mono ?_
              rintro e w11 ⟨r11, rfl, rfl, hr11⟩
              clear HIx
              rcases hr11 with ⟨rfl, hno⟩ | ⟨q, rfl, hq, _, _⟩
              · have HNo := hid1 hno
                have HP1 := hid1 (PutK_calls (w := w11.drew) (HPl.out.below (below_draws (Below.refl _ w11) 1)).tree ((HE.out.below gW2).below (below_draws (Below.refl _ w11) 1)) (fun f hf => by have := HPl.out.len f hf; omega) (by have := HPl.out.well.few; omega) y1 y2 (by omega))
                clear hno
                go_wp2
                go_region_held3 (fun w' => w'.cell? ⟨g, oi + k * 2, none⟩ = some (.string (ba y1)) ∧ w'.cell? ⟨g, oi + k * 2 + 1, none⟩ = some (.string (ba y2))) (first | go_keep | fail)
                  (first | (go_at_call 20; refine HP1.out.mono ?_; rintro e w12 ⟨rfl, ⟨o5, hon5, hT5⟩, hb5, hk5⟩; (have G5' : Below W.heap.size W w12 := (below_draws gW2 1).trans (hb5.mono (by have := G4.size; omega))); (have dd := HD.out w12 G5'); (have e0 := dd.1); (have e1 := dd.2)) | fail)
                all_goals
                  have HP5 := hid1 ((HPl.out.below (below_draws (Below.refl _ w11) 1)).put HNo.out (by omega) hon5 hT5 hb5 hk5)
                  clear hon5 hT5 hb5 hk5 HP1
                  go_wp2
                  exact ⟨⟨k + 1, _, _, by omega, by go_num, HP5.out⟩, by simp [intOf]; omega⟩
              · have q0 : (0 : Int) ≤ (q : Int) := by omega
                go_wp2
                exact ⟨⟨k + 1, fs', o', by omega, by go_num, HPl.out⟩, by simp [intOf]; omega⟩
            · have k1 : (ml.length : Int) ≤ (k : Int) := by omega
              have HT12 := hid1 (HT10.out.kept (w' := wr) (S := fun j => w4.heap.size ≤ j) ⟨gB.size, fun j hj hn => gB.block j (by omega)⟩ (by omega) (fun j ej e => by have := HTm.out j ej; omega))
              have HOr1 := hid1 (HOr.out wr gW2 (by omega) fun x hx => (HSm.out x hx).many)
              have HOwr : Hid (wr.ownsRow w8.heap.size 90 4 (.slice p16 ns.length c16) ns.length (ruCells (partV l uv ns))) := hid1 (own_same HOw10.out fun j hj => HPl.out.only.block j (own_lt HOw10.out _ hj.symm).2 fun hs => by
                have := (own_lt HOw10.out _ hj.symm).1
                rcases hs with e | e
                · omega
                · have := HUm.out j e
                  omega)
              clear HOr HOw10 HT10 HIr HMc HUv
              go_wp2_with fail
              refine HOr1.out.mono ?_
              rintro e w13 ⟨v13, rfl, hR13, g13⟩
              have G13 := below_then gW2 g13
              have HOf1 := hid1 (wOf_calls (HW.out.below G13) (HT12.out.below g13) HBy.out v13 l hR13 (by omega) HSm.out out (by omega))
              obtain ⟨p13, c13, rfl, -⟩ := hR13
              clear HOr1 HT12
              go_wp2_with fail
              refine HOf1.out.mono ?_
              rintro e w14 ⟨s1, ev1, rfl, g14, hO1⟩
              have G14 := below_then G13 g14
              have g34 := below_then g13 g14
              have HO1 := hid1 hO1
              have hev1 := hO1.val
              have hRp2 := partV_row (own_same HOwr.out fun j hj => g34.block j (own_lt HOwr.out _ hj.symm).2) HLt.out (HXr.out w14 G14)
              have HOp2 := hid1 (OwnRules_calls _ (Ru.part l ns) (by omega) hRp2 fun x hx => (HSp.out x hx).many)
              have HP14 := hid1 (HPl.out.below g34)
              clear HOf1 hO1 hRp2 HOwr HPl
              have HNse := hid1 (Ru.part_len l ns)
              rcases hev1 with ⟨t1, x1, rfl⟩ | rfl
              all_goals
                go_wp2_with fail
                refine HOp2.out.mono ?_
                rintro e w15 ⟨v15, rfl, hR15, g15⟩
                have G15 := below_then G14 g15
                have HOf2 := hid1 (wOf_calls (HW.out.below G15) (HP14.out.below g15).tree (fun x b hb => (HP14.out.well.each _ (Bf.get_mem hb)).2) v15 (Ru.part l ns) hR15 (by omega) HSp.out out (by omega))
                obtain ⟨p15, c15, rfl, -⟩ := hR15
                clear HOp2
                go_wp2_with fail
                refine HOf2.out.mono ?_
                rintro e w16 ⟨s2, ev2, rfl, g16, hO2⟩
                have G16 := below_then G15 g16
                obtain ⟨rfl, rfl, hsv⟩ := of_same HNs.out HEx.out (fun x hx => HP14.out.same x ((HLvs.out.mem x).2 hx)) HO1.out hO2
                clear HOf2 hO2 HO1 HP14 g15 g16 G15
                rcases hsv with ⟨_, rfl⟩ | hnil
                · go_wp2
                  go_ret
                  exact ⟨rfl, G16⟩
                · first
                  | (cases hnil; done)
                  | (clear hnil; go_wp2; go_ret; exact ⟨rfl, G16⟩)
end Go.Proofs.YtmhipgompplkdaaGreatDoor
