import Derived.Test.YtflbofdpfgkmcaaGreatDoorOP42
import Derived.Test.YtflbofdpfgkmcaaGreatDoorOP46
import Derived.Test.YtflbofdpfgkmcaaGreatDoorOP48
import Derived.Test.YtflbofdpfgkmcaaGreatDoorOP47
import Derived.Test.YtflbofdpfgkmcaaGreatDoorOP20
namespace Go.Proofs.YtflbofdpfgkmcaaGreatDoor
open Go.RowKit Go.Shelf Go.Lib
set_option maxRecDepth 100000 in
set_option maxHeartbeats 32000000 in
theorem BuildOnce_calls {es : Nat → Addr} {At : (Nat → Prop) → World → Value → Nat → Cf.Ens → Prop} {BAt : (Nat → Prop) → World → Value → Value → Bf.Bd → Prop} (HB : Builds es Af.actO At BAt) (HC : Caches0 es At) {W : World} (hW : BuildW W es) (hE : TErr W (erOf es)) (vf : Value) (fl : Tf.Fs) (hF : FIRow W vf fl) (vl : Value) (l : List Ru) (hR : RRow W vl l) (vr : Value) (rs : List Int) (hZ : ZRow W vr rs) (hrs : ∀ x ∈ rs, -9223372036854775808 ≤ x ∧ x ≤ 9223372036854775807) :
    Calls Tryz.prog 8 #[vf, vl, vr] W fun e w' => e = .returned (.bool true) ∧ Below W.heap.size W w' := by
  have HBu := hid1 HB
  have HW := hid1 (BuildB.of hW)
  have HE := hid1 hE
  have HBt := hid1 (built_calls HB HC hW hE)
  have HLf := hid1 fun V (g : Below W.heap.size W V) => longFiles_calls (w := V) vf fl (hF.below g)
  have HLr := hid1 fun V (g : Below W.heap.size W V) => LongRules_any (w := V) vl l 12 (by omega) (hR.below g)
  have HFt := hid1 fun V (g : Below W.heap.size W V) (hs : ShortF fl) => fileTree_calls (w := V) (hE.below g) vf fl (hF.below g) hs
  have HOr := hid1 fun V (g : Below W.heap.size W V) (hl : l.length ≤ 1000) (h12 : ∀ x ∈ l, x.ins.length ≤ 12) => OwnRules_calls (w := V) vl l hl (hR.below g) h12
  have HNr := hid1 fun V (g : Below W.heap.size W V) (hI : ∀ x ∈ l, x.ins.length ≤ 1000000) (i k : Nat) (hi : i < l.length) (hk : k < l.length) => NeedsRule_calls (w := V) vl l (hR.below g) hI i k hi hk
  have HRs := hid1 hrs
  obtain ⟨pf, cf, rfl, -⟩ := hF
  obtain ⟨pr, cr, rfl, hzc⟩ := hZ
  obtain ⟨pl, cl, rfl, hcl, hnl, hlc⟩ := hR
  have HZc := hid1 hzc
  have HLc := hid1 hlc
  obtain ⟨iS, hiS, hS0, hS1, hS2⟩ := info_parts Tryz.infoStr
  clear HB HC hW hE hrs hzc hlc hcl hnl
  go_enter Tryz.func8, Tryz.ntmps8
  go_wp2_with fail
  refine HBt.out.mono ?_
  rintro e w1 ⟨rfl, g1⟩
  have HL1 := hid1 (HLf.out w1 g1)
  clear HBt HLf
  go_wp2_with fail
  refine HL1.out.mono ?_
  rintro e w2 ⟨b, rfl, rfl, hb⟩
  clear HL1
  cases b with
  | true =>
    clear hb HFt HOr HNr HLr
    go_wp2
    go_ret
    exact ⟨rfl, g1⟩
  | false =>
  have hs := hb.resolve_left (by simp)
  have HL2 := hid1 (HLr.out w2 g1)
  clear HLr hb
  go_wp2_with fail
  refine HL2.out.mono ?_
  rintro e w3 ⟨r, rfl, rfl, hr⟩
  clear HL2
  rcases hr with rfl | ⟨rfl, hlen, hsm⟩
  · clear HFt HOr HNr
    go_wp2
    go_ret
    exact ⟨rfl, g1⟩
  by_cases hr60 : 60 < rs.length
  · have z60 : (60 : Int) < (rs.length : Int) := by omega
    clear HFt HOr HNr
    go_wp2
    go_ret
    exact ⟨rfl, g1⟩
  have z60 : (rs.length : Int) ≤ 60 := by omega
  have HF3 := hid1 (HFt.out w3 g1 hs)
  have HSm := hid1 hsm
  have HSh := hid1 hs
  have hl41 : l.length ≤ 41 := by omega
  have zl : (l.length : Int) ≤ 41 := by omega
  have HLen := hid1 hlen
  clear HFt hs hsm hlen hr60
  go_wp2_with fail
  refine HF3.out.mono ?_
  rintro e w4 ⟨T, M, oT, uT, rfl, hBo, g4⟩
  have G4 := below_then g1 g4
  have HBo := hid1 hBo
  clear HF3 hBo g4 g1
  go_wp2
  go_loopw [10, 11] (fun ov iv wr => ∃ k : Nat, k ≤ l.length ∧ iv = .int .i64 k ∧ wr.ownsRow w4.heap.size 9 1 ov k ((l.take k).map fun r => sv r.out) ∧ Below w4.heap.size w4 wr) (fun _ iv _ => l.length - (intOf iv).toNat)
  case atStart => exact ⟨0, Nat.zero_le _, rfl, World.ownsRow_nil _ _ _ _, Below.refl _ _⟩
  case round =>
    obtain ⟨k, hk, rfl, hrow, hB⟩ := hrel
    have k0 : (0 : Int) ≤ (k : Int) := by omega
    by_cases hlt : k < l.length
    · have k1 : (k : Int) < (l.length : Int) := by omega
      obtain ⟨g, og, rfl, hg, hc⟩ := HLc.out (by intro e; rw [e] at hlt; simp at hlt)
      obtain ⟨b0, -⟩ := hc k hlt
      have c0 := cell_below' (cell_below' b0 G4) hB
      have HTk : Hid ((l.take (k + 1)).map (fun r => sv r.out) = (l.take k).map (fun r => sv r.out) ++ [sv l[k].out]) := hid1 (by
        rw [List.take_succ_eq_append_getElem hlt, List.map_append]
        rfl)
      have hml : k + 1 ≤ maxLen := by unfold maxLen; omega
      have hbz := hB.size
      clear hc b0 HLc HNr HOr
      generalize l[k] = y at *
      go_wp2_with (first
        | (at_builtin; refine wpList_append_own _ rfl _ _ 45 rfl w4.heap.size 9 iS (.string ⟨#[]⟩) 1 16 Tryz.underlying45 hiS hS0 hS1 hS2 rfl (by decide) _ _ _ rfl (hrow.alloc _) ⟨wr.heap.size, 0, none⟩ 1 1 [sv y.out] rfl rfl (one_new _ _ _ _ (by simp)) (by simp [Value.oneCell']) hml (by omega) (by simp; omega) ?_; intro v' w5 hown' hgrow _)
        | fail)
      exact ⟨⟨k + 1, by omega, by go_num, by rw [HTk.out]; exact hown', below_appended hB hbz hrow hgrow⟩, by simp [intOf]; omega⟩
    · have k1 : (l.length : Int) ≤ (k : Int) := by omega
      obtain rfl : k = l.length := by omega
      have hX : XRow wr u10 (l.map Ru.out) := XRow.of_owns (n := l.length) (by
        have := hrow
        rw [List.take_length] at this
        rw [List.map_map]
        exact this)
      have HX := hid1 hX
      have HO5 := hid1 (HOr.out wr (below_then G4 hB) (by omega) fun x hx => (HSm.out x hx).many)
      have HG4 := hid1 G4
      obtain ⟨po, co, rfl⟩ := own_val hrow
      generalize wr = w5 at *
      clear HOr hX hrow
      go_wp2_with fail
      refine HO5.out.mono ?_
      rintro e w6 ⟨v6, rfl, hR6, g6⟩
      have G56 := below_then hB g6
      have G6 := below_then HG4.out G56
      have HN6 := hid1 (HBu.out.new w6 _ T (Tf.taken fl) oT v6 l _ (l.map Ru.out) (.pointer none) (HW.out.below G6).w (HBo.out.t.below G56) HBo.out.well.rises (by have := HBo.out.well.few; omega) (fun f hf => ⟨by have := HSh.out.path f (Tf.taken_mem _ f hf); omega, (HBo.out.well.each f hf).2⟩) hR6 (by omega) HSm.out (HX.out.below g6) (by simp; omega) (fun x hx => by obtain ⟨r, hr, rfl⟩ := List.mem_map.1 hx; have := (HSm.out r hr).out; omega) ⟨_, rfl⟩)
      have HWe : Hid (∀ f ∈ Tf.taken fl, f.2.length ≤ 2000) := hid1 fun f hf => (HBo.out.well.each f hf).2
      obtain ⟨p6, c6, rfl, -⟩ := hR6
      clear HO5 hB G4 G56 g6 HX HBo
      go_wp2_with fail
      refine HN6.out.mono ?_
      rintro e w7 ⟨bv, ev, rfl, g7, hN7⟩
      have G7 := below_then G6 g7
      clear HN6
      rcases hN7 with ⟨rfl, hbad⟩ | ⟨hft, -, hord, rfl, ⟨pb, rfl⟩, S, hBA, hlow⟩
      · obtain ⟨t9, x9, rfl⟩ : ∃ t x, ev = .iface t x := by
          rcases hbad with ⟨h1, h2⟩ | ⟨-, k, hk, -, -, h2⟩ | ⟨-, -, -, h2⟩
          · exact h2.some h1
          · exact h2.some (by simp)
          · exact ⟨_, _, h2⟩
        clear hbad HNr
        go_wp2
        go_ret
        exact ⟨rfl, G7⟩
      have h40 := (Ru.fault_ok hft).1
      have hl12 : l.length ≤ 12 := by have := HLen.out; omega
      have HFt0 := hid1 hft
      obtain ⟨ord, hord⟩ := Option.isSome_iff_exists.1 hord
      have HRk := hid1 (Bf.rank_order hord)
      obtain ⟨iB, hiB, hB0, hB1, hB2⟩ := info_parts Tryz.infoBool
      have hby : iB.bytes * l.length ≤ 281474976710656 := by rw [hB2]; omega
      have hml : l.length ≤ maxLen := by unfold maxLen; omega
      have HBA := hid1 (And.intro hBA hlow)
      have zl0 : (0 : Int) ≤ (l.length : Int) := by omega
      clear hBA hlow hft hord
      go_wp2_with (at_make; refine wpList_make_full _ rfl _ _ 80 rfl w7.heap.size 4 iB (.bool false) 1 Tryz.underlying80 hiB hB0 hB1 .i64 .i64 _ _ l.length rfl rfl (by omega) (by omega) hby hml (Nat.le_refl _) ?_; intro w8 hown hgrow; have O8 := made_row hown)
      have hz7 := HBu.out.lt _ _ _ _ _ HBA.out.1
      have hz8 := hgrow.size
      have g8 : Below w7.heap.size w7 w8 := (Below.refl _ w7).grown hgrow (Nat.le_refl _) (fun _ e => by cases e)
      have HO0 : Hid (OnW es BAt W l pb w7.heap.size (Bf.init (Tf.taken fl) l (l.map Ru.out)) S w8) := hid1 ⟨HBu.out.same _ _ _ _ _ _ HBA.out.1 g8.size fun k hk => g8.block k (hz7 k hk), fun j hj => by have h1 := HBA.out.2 j hj; have h2 := G6.size; omega, fun e => by have := hz7 _ e; omega, Own.congr (ownsRow_mono O8 (Nat.zero_le _)) (fun j hj => by rw [Bf.init_all j, if_pos hj]; rfl), below_then G7 g8, by have := G7.size; omega, Bf.Good.init fun k => Bf.init_all k, Bf.init_fit HWe.out, rfl⟩
      have HWz0 : Hid ((Bf.init (Tf.taken fl) l (l.map Ru.out)).waits ≤ l.length) := hid1 (Bf.many_le _ _ _)
      clear hown hgrow O8 g8 hz7 hz8 HBA HWe HSh
      generalize w7.heap.size = gr at *
      go_wp2
      go_loopw [15] (fun iv wr => ∃ (t : Nat) (d : Bf.Bd) (S : Nat → Prop), t ≤ rs.length + l.length ∧ iv = .int .i64 t ∧ OnW es BAt W l pb gr d S wr ∧ d.waits + (t - rs.length) ≤ l.length) (fun iv _ => rs.length + l.length - (intOf iv).toNat)
      case atStart => exact ⟨0, _, S, Nat.zero_le _, rfl, HO0.out, by have := HWz0.out; omega⟩
      case round =>
        clear HO0 HWz0
        clear S
        obtain ⟨t, d, S, ht, rfl, hO, hwt⟩ := hrel
        have HO := hid1 hO
        clear hO
        have t0 : (0 : Int) ≤ (t : Int) := by omega
        by_cases htl : t < rs.length + l.length
        · have t1 : (t : Int) < (rs.length : Int) + (l.length : Int) := by omega
          have HRd := hid1 (HBu.out.ready S wr pb (.pointer none) d HO.out.bat (by rw [HO.out.l]; omega))
          have hdl := HO.out.l
          have hrl : d.ready.length ≤ 12 := Nat.le_trans (Bf.readyTo_len d d.l.length) (by rw [hdl]; exact hl12)
          have HDl := hid1 hdl
          clear hdl
          go_wp2_with fail
          refine HRd.out.mono ?_
          rintro e w9 ⟨u9, rfl, hu9, g9⟩
          have HO9 := hid1 (HO.out.below HBu.out g9)
          have HU9 := hid1 hu9
          obtain ⟨p9, c9, rfl, hc9⟩ := hu9
          have HC9 := hid1 hc9
          clear HRd hc9 g9 HO
          generalize wr = wq0 at *
          go_wp2
          go_loopw [17] (fun kv wx => ∃ kk : Nat, kk ≤ d.ready.length ∧ kv = .int .i64 kk ∧ Below w9.heap.size w9 wx) (fun kv _ => d.ready.length - (intOf kv).toNat)
          case atStart => exact ⟨0, Nat.zero_le _, rfl, Below.refl _ _⟩
          case round =>
            obtain ⟨kk, hkk, rfl, hBk⟩ := hrel
            have q0 : (0 : Int) ≤ (kk : Int) := by omega
            by_cases hkl : kk < d.ready.length
            · have q1 : (kk : Int) < (d.ready.length : Int) := by omega
              obtain ⟨g3, o3, rfl, hg3, hc3⟩ := HC9.out (by intro e; rw [e] at hkl; simp at hkl)
              have e0 := (hBk.cell (p := ⟨g3, o3 + kk, none⟩) hg3).trans (hc3 kk hkl)
              have hj := Bf.mem_ready.1 (List.getElem_mem hkl)
              rw [HDl.out] at hj
              have HOk := hid1 (HO9.out.below HBu.out hBk)
              clear hc3
              generalize d.ready[kk] = j at *
              have j0 : (0 : Int) ≤ (j : Int) := by omega
              have j1 : (j : Int) < (l.length : Int) := by omega
              have hjw := Bf.ready_waits hj.2
              have hat : d.at (j : Nat) = .waits := by
                unfold Bf.Bd.at
                rw [HDl.out, if_neg (by omega), Int.toNat_natCast]
                exact hjw
              have HSj := HBu.out.state S wr pb (.pointer none) d (j : Nat) HOk.out.bat (by rw [HDl.out]; omega) (by omega) (by omega)
              rw [hat] at HSj
              have HSj := hid1 HSj
              have HFr : Hid (∀ m, Ru.needs l j m = true → (d.st m).isDone = true) := hid1 fun m hm => Bf.ready_free hj.2 (by rw [HDl.out]; exact (Ru.needs_lt hm).2) (by rw [HDl.out]; exact hm)
              have hjl := hj.1
              have hnw : (Bf.St.waits.name == [119, 97, 105, 116, 115]) = true := rfl
              have dj1 : decide ((j : Int) < 0) = false := by simp
              have dj2 : decide ((l.length : Int) ≤ (j : Int)) = false := by simp; omega
              have dj3 : decide (l.length ≤ j) = false := by simp; omega
              generalize Bf.St.waits.name = nm at *
              clear hj hjw hat HOk
              go_wp2_with fail
              refine HSj.out.mono ?_
              rintro e wS ⟨rfl, gS⟩
              have gS' := below_then hBk gS
              clear HSj gS hBk
              generalize wr = wq1 at *
              go_wp2
              go_loopw [19] (fun mv wx => ∃ m : Nat, m ≤ l.length ∧ mv = .int .i64 m ∧ Below w9.heap.size w9 wx) (fun mv _ => l.length - (intOf mv).toNat)
              case atStart => exact ⟨0, Nat.zero_le _, rfl, gS'⟩
              case round =>
                clear gS'
                obtain ⟨m, hm, rfl, hBm⟩ := hrel
                have m0 : (0 : Int) ≤ (m : Int) := by omega
                by_cases hmlt : m < l.length
                · have m1 : (m : Int) < (l.length : Int) := by omega
                  have HOm := hid1 (HO9.out.below HBu.out hBm)
                  have HNm := hid1 (HNr.out wr HOm.out.base (fun x hx => by have := (HSm.out x hx).many; omega) j m hjl hmlt)
                  cases hnd : Ru.needs l j m with
                  | false =>
                    rw [hnd] at HNm
                    clear HOm
                    go_wp2_with fail
                    refine HNm.out.mono ?_
                    rintro e wN ⟨rfl, q, rfl⟩
                    clear HNm
                    go_wp2
                    exact ⟨⟨m + 1, by omega, by go_num, below_draws hBm q⟩, by simp [intOf]; omega⟩
                  | true =>
                    rw [hnd] at HNm
                    have hdn := Bf.St.name_done (d.st m)
                    rw [HFr.out m hnd] at hdn
                    have HSt2 : Hid (∀ V, Below wr.heap.size wr V → Calls Tryz.prog 58 #[.pointer (some pb), .int .i64 m] V fun e w' => e = .returned (.string (ba (d.st m).name)) ∧ Below V.heap.size V w') := hid1 fun V gV => by
                      have := HBu.out.state S V pb (.pointer none) d (m : Nat) (HOm.out.below HBu.out gV).bat (by rw [HDl.out]; omega) (by omega) (by omega)
                      have hat : d.at (m : Nat) = d.st m := by
                        unfold Bf.Bd.at
                        rw [HDl.out, if_neg (by omega), Int.toNat_natCast]
                      rwa [hat] at this
                    clear HOm hnd
                    go_wp2_with fail
                    refine HNm.out.mono ?_
                    rintro e wN ⟨rfl, q, rfl⟩
                    have HS3 := hid1 (HSt2.out _ (below_draws (Below.refl _ wr) q))
                    have gN := below_draws hBm q
                    clear HNm HSt2
                    go_wp2_with fail
                    refine HS3.out.mono ?_
                    rintro e wM ⟨rfl, gM⟩
                    have gM' := below_then gN gM
                    clear HS3
                    go_wp2
                    exact ⟨⟨m + 1, by omega, by go_num, gM'⟩, by simp [intOf]; omega⟩
                · have m1 : (l.length : Int) ≤ (m : Int) := by omega
                  clear HFr
                  go_wp2
                  exact ⟨⟨kk + 1, by omega, by go_num, hBm⟩, by simp [intOf]; omega⟩
            · have q1 : (d.ready.length : Int) ≤ (kk : Int) := by omega
              have HO10 := hid1 (HO9.out.below HBu.out hBk)
              clear HO9
              generalize wr = w10 at *
              have hwm : d.waits ≤ l.length := by omega
              have HRun := hid1 fun (n : Int) (h0 : -9223372036854775808 ≤ n) (h1 : n ≤ 9223372036854775807) => HBu.out.run W.heap.size S (fun _ => False) w10 pb (.pointer none) d none n HO10.out.bat ⟨rfl, fun j h => h⟩ (fun _ _ h => h) (HW.out.trans HO10.out.base) HO10.out.low (fun _ h => h.elim) (by rw [HO10.out.l]; exact HFt0.out) (by rw [HO10.out.l]; exact HSm.out) HO10.out.fit trivial h0 h1
              have HRan := hid1 fun w11 S' k (hk : k < l.length) (hr : d.isReady k = true) hO hB hS => HO10.out.ran (w' := w11) (S' := S') HBu.out actFit hk hr hO hB hS
              by_cases htr : t < rs.length
              · have r1 : (t : Int) < (rs.length : Int) := by omega
                obtain ⟨gz, oz, rfl, hgz, hcz⟩ := HZc.out (by intro e; rw [e] at htr; simp at htr)
                have ez := (HO10.out.base.cell (p := ⟨gz, oz + t, none⟩) hgz).trans (hcz t htr)
                have hbn := HRs.out _ (List.getElem_mem htr)
                clear hcz
                generalize rs[t] = n at *
                have HRn := HRun.out n hbn.1 hbn.2
                clear HRun
                rcases Bf.run_cases Af.actO none d n with ⟨k, rfl, hk, hrk, er⟩ | ⟨c, hc, er⟩
                · rw [er, Bf.go_code, show erOf es 0 = Value.nilIface from rfl] at HRn
                  have HRn := hid1 HRn
                  rw [HDl.out] at hk
                  have k0 : (0 : Int) ≤ (k : Int) := by omega
                  have k1 : (k : Int) < (l.length : Int) := by omega
                  have dk1 : decide ((k : Int) < 0) = false := by simp
                  have dk2 : decide ((l.length : Int) ≤ (k : Int)) = false := by simp; omega
                  have dk3 : decide (l.length ≤ k) = false := by simp; omega
                  have HLs := hid1 (Bf.go_less Af.actO none d k (by rw [HDl.out]; exact hk) hrk).1
                  have HRa := hid1 fun w11 S' => HRan.out w11 S' k hk hrk
                  clear HRan HO10
                  generalize Bf.go Af.actO none d k = G at *
                  generalize G.hit = hit at *
                  go_wp2_with fail
                  refine HRn.out.mono ?_
                  rintro e w11 ⟨rfl, hO11, S', SC', hB11, -, -, hS11, -⟩
                  obtain ⟨q1, q2, q3, q4⟩ := HRa.out w11 S' hO11 hB11 hS11
                  have HO12 := hid1 q4
                  clear HRn HRa q4 hO11 hB11 hS11
                  go_wp2
                  exact ⟨⟨t + 1, G.d, S', by omega, by go_num, HO12.out, by have := HLs.out; omega⟩, by simp [intOf]; omega⟩
                · rw [er] at HRn
                  have HRn := hid1 HRn
                  have HSt := hid1 fun w11 S' hO hB hS => HO10.out.still (w' := w11) (S' := S') HBu.out hO hB hS
                  obtain ⟨te, xe, ee⟩ : ∃ t x, erOf es c = .iface t x := by
                    rcases erOf_iface es c with ⟨h, _⟩ | h
                    · exact absurd h hc
                    · exact h
                  simp only at HRn HSt
                  rw [ee] at HRn
                  clear HRan er ee HO10
                  go_wp2_with fail
                  refine HRn.out.mono ?_
                  rintro e w11 ⟨rfl, hO11, S', SC', hB11, -, -, hS11, -⟩
                  have HO11 := hid1 (HSt.out w11 S' hO11 hB11 hS11)
                  clear HRn HSt hO11 hB11 hS11
                  go_wp2
                  exact ⟨⟨t + 1, d, S', by omega, by go_num, HO11.out, by omega⟩, by simp [intOf]; omega⟩
              · have r1 : (rs.length : Int) ≤ (t : Int) := by omega
                by_cases hrz : d.ready = []
                · have hr0 : d.ready.length = 0 := by rw [hrz]; rfl
                  have HWz : Hid (d.waits = 0) := hid1 (Classical.byContradiction fun hne => by
                    have : ∃ k, k < d.l.length ∧ (d.st k).isWaits = true := Classical.byContradiction fun hno => hne (Bf.many_none fun k hk => by
                      rw [Bool.eq_false_iff]
                      exact fun e => hno ⟨k, hk, e⟩)
                    obtain ⟨k, hk, hw⟩ := this
                    exact HO10.out.good.ready (rank := fun k => ord.idxOf k) (fun i k hn => HRk.out i k (by rw [← HO10.out.l]; exact hn)) hk hw hrz)
                  have HO := HO10
                  have zr : (d.ready.length : Int) ≤ 0 := by omega
                  have dz1 : decide ((0 : Int) < (d.ready.length : Int)) = false := by simp [hr0]
                  have dz2 : decide (0 < d.ready.length) = false := by simp [hr0]
                  have dz3 : decide ((t : Int) < (rs.length : Int)) = false := by simp; omega
                  have dz4 : decide (t < rs.length) = false := by simp; omega
                  clear HRun HRan HO10 hrz hr0 HC9 HU9 hBk
                  generalize w10 = wF at *
                  have HEnd := hid1 fun k (hk : k < l.length) => (HO.out.good.ends HWz.out (k := k) (by rw [HO.out.l]; exact hk))
                  have HBad := hid1 fun k => HO.out.good.badTo (i := k)
                  rw [HO.out.l] at HBad
                  have HSt := hid1 fun V (g : Below wF.heap.size wF V) (i : Nat) (hi : i < l.length) => HBu.out.state S V pb (.pointer none) d (i : Nat) (HO.out.below HBu.out g).bat (by rw [HO.out.l]; omega) (by omega) (by omega)
                  have HAt : Hid (∀ i : Nat, i < l.length → d.at (i : Nat) = d.st i) := hid1 fun i hi => by
                    unfold Bf.Bd.at
                    rw [HO.out.l, if_neg (by omega), Int.toNat_natCast]
                  have HOv := hid1 fun V (g : Below wF.heap.size wF V) => HBu.out.over S V pb (.pointer none) d (HO.out.below HBu.out g).bat (by rw [HO.out.l]; omega)
                  rw [HWz.out] at HOv
                  have HRan := hid1 fun V (g : Below wF.heap.size wF V) (i : Nat) (hi : i < l.length) => (HO.out.below HBu.out g).own.cell hi
                  have HBF := hid1 HO.out.base
                  have HDl := hid1 HO.out.l
                  clear HO
                  go_wp2
                  go_loopw [23] (fun iv wx => ∃ i : Nat, i ≤ l.length ∧ iv = .int .i64 i ∧ Below wF.heap.size wF wx) (fun iv _ => l.length - (intOf iv).toNat)
                  case atStart => exact ⟨0, Nat.zero_le _, rfl, Below.refl _ _⟩
                  case round =>
                    obtain ⟨i, hi, rfl, hBx⟩ := hrel
                    have i0 : (0 : Int) ≤ (i : Int) := by omega
                    by_cases hilt : i < l.length
                    · have i1 : (i : Int) < (l.length : Int) := by omega
                      have HS1 := HSt.out wr hBx i hilt
                      rw [HAt.out i hilt] at HS1
                      have HS1 := hid1 HS1
                      go_wp2_with fail
                      refine HS1.out.mono ?_
                      rintro e wS ⟨rfl, gS⟩
                      have gS' := below_then hBx gS
                      clear HS1 gS hBx
                      generalize wr = wq at *
                      go_wp2
                      go_loopw [25, 26] (fun bv kv wx => ∃ k : Nat, k ≤ l.length ∧ kv = .int .i64 k ∧ bv = .bool (d.badTo i k) ∧ Below wF.heap.size wF wx) (fun _ kv _ => l.length - (intOf kv).toNat)
                      case atStart => exact ⟨0, Nat.zero_le _, rfl, rfl, gS'⟩
                      case round =>
                        clear gS'
                        obtain ⟨k, hk, rfl, rfl, hBy⟩ := hrel
                        have k0 : (0 : Int) ≤ (k : Int) := by omega
                        by_cases hklt : k < l.length
                        · have k1 : (k : Int) < (l.length : Int) := by omega
                          have HNk := hid1 (HNr.out wr (HBF.out.trans (hBy.mono HBF.out.size)) (fun x hx => by have := (HSm.out x hx).many; omega) i k hilt hklt)
                          have HSu := hid1 (Bf.badTo_succ d i k)
                          rw [HDl.out] at HSu
                          have hn1 := Bf.St.name_failed (d.st k)
                          have hn2 := Bf.St.name_left (d.st k)
                          cases hnd : Ru.needs l i k with
                          | false =>
                            rw [hnd] at HNk HSu
                            clear hn1 hn2
                            go_wp2_with fail
                            refine HNk.out.mono ?_
                            rintro e wN ⟨rfl, q, rfl⟩
                            clear HNk
                            go_wp2
                            exact ⟨⟨k + 1, by omega, by go_num, by rw [HSu.out]; simp, below_draws hBy q⟩, by simp [intOf]; omega⟩
                          | true =>
                            rw [hnd] at HNk HSu
                            have HSk := hid1 fun V (g : Below wF.heap.size wF V) => HSt.out V g k hklt
                            rw [HAt.out k hklt] at HSk
                            cases hfl : (d.st k).isFailed with
                            | true =>
                              rw [hfl] at HSu hn1
                              clear hn2
                              go_wp2_with fail
                              refine HNk.out.mono ?_
                              rintro e wN ⟨rfl, q, rfl⟩
                              have gN := below_draws hBy q
                              have HSk2 := hid1 (HSk.out _ gN)
                              clear HNk HSk
                              go_wp2_with fail
                              refine HSk2.out.mono ?_
                              rintro e wM ⟨rfl, gM⟩
                              have gM' := below_then gN gM
                              clear HSk2
                              go_wp2
                              exact ⟨⟨k + 1, by omega, by go_num, by rw [HSu.out]; simp, gM'⟩, by simp [intOf]; omega⟩
                            | false =>
                              rw [hfl] at HSu hn1
                              go_wp2_with fail
                              refine HNk.out.mono ?_
                              rintro e wN ⟨rfl, q, rfl⟩
                              have gN := below_draws hBy q
                              have HSk2 := hid1 (HSk.out _ gN)
                              clear HNk
                              go_wp2_with fail
                              refine HSk2.out.mono ?_
                              rintro e wM ⟨rfl, gM⟩
                              have gM' := below_then gN gM
                              have HSk3 := hid1 (HSk.out _ gM')
                              clear HSk2 HSk
                              go_wp2_with fail
                              refine HSk3.out.mono ?_
                              rintro e wP ⟨rfl, gP⟩
                              have gP' := below_then gM' gP
                              clear HSk3
                              cases hlf : (d.st k).isLeft with
                              | true =>
                                rw [hlf] at HSu hn2
                                go_wp2
                                exact ⟨⟨k + 1, by omega, by go_num, by rw [HSu.out]; simp, gP'⟩, by simp [intOf]; omega⟩
                              | false =>
                                rw [hlf] at HSu hn2
                                go_wp2
                                exact ⟨⟨k + 1, by omega, by go_num, by rw [HSu.out]; simp, gP'⟩, by simp [intOf]; omega⟩
                        · have k1 : (l.length : Int) ≤ (k : Int) := by omega
                          obtain rfl : k = l.length := by omega
                          have hcell := HRan.out wr hBy i hilt
                          obtain ⟨hst, hrn⟩ := HEnd.out i hilt
                          simp only [hrn] at hcell
                          have hbd := HBad.out i
                          rw [hbd]
                          have n1 := Bf.St.name_done (d.st i)
                          have n2 := Bf.St.name_failed (d.st i)
                          have n3 := Bf.St.name_left (d.st i)
                          clear hrn hbd
                          cases hl3 : (d.st i).isLeft with
                          | true =>
                            have f1 : (d.st i).isDone = false := by cases hs : d.st i <;> rw [hs] at hl3 <;> first | rfl | cases hl3
                            have f2 : (d.st i).isFailed = false := by cases hs : d.st i <;> rw [hs] at hl3 <;> first | rfl | cases hl3
                            rw [f1] at n1
                            rw [f2] at n2
                            rw [hl3] at n3 hcell
                            clear f1 f2 hl3 hst
                            simp only [Bool.not_true] at hcell
                            go_wp2
                            exact ⟨⟨i + 1, by omega, by go_num, hBy⟩, by simp [intOf]; omega⟩
                          | false =>
                            rw [hl3] at n3 hcell
                            simp only [Bool.not_false] at hcell
                            cases hd3 : (d.st i).isDone with
                            | true =>
                              rw [hd3] at n1
                              clear n2 hst hl3 hd3
                              go_wp2
                              exact ⟨⟨i + 1, by omega, by go_num, hBy⟩, by simp [intOf]; omega⟩
                            | false =>
                              have f2 : (d.st i).isFailed = true := by
                                rcases hst with h | h | h
                                · rw [hd3] at h; cases h
                                · exact h
                                · rw [hl3] at h; cases h
                              rw [hd3] at n1
                              rw [f2] at n2
                              clear f2 hst hl3 hd3
                              go_wp2
                              exact ⟨⟨i + 1, by omega, by go_num, hBy⟩, by simp [intOf]; omega⟩
                    · have i1 : (l.length : Int) ≤ (i : Int) := by omega
                      have HOo := hid1 (HOv.out wr hBx)
                      clear HOv
                      go_wp2_with fail
                      refine HOo.out.mono ?_
                      rintro e wZ ⟨rfl, gZ⟩
                      have gZ' := below_then (HBF.out.trans (hBx.mono HBF.out.size)) gZ
                      clear HOo
                      go_wp2
                      go_ret
                      exact ⟨rfl, gZ'⟩
                · have hpos : 0 < d.ready.length := List.length_pos_iff.2 hrz
                  have zr : (0 : Int) < (d.ready.length : Int) := by omega
                  obtain ⟨g3, o3, rfl, hg3, hc3⟩ := HC9.out hrz
                  have e0 := (hBk.cell (p := ⟨g3, o3 + (d.ready.length - 1), none⟩) hg3).trans (hc3 (d.ready.length - 1) (by omega))
                  have hj := Bf.mem_ready.1 (List.getElem_mem (l := d.ready) (n := d.ready.length - 1) (by omega))
                  clear hc3
                  generalize d.ready[d.ready.length - 1] = k at *
                  have hk := hj.1
                  have hrk := hj.2
                  have HRn := HRun.out (k : Nat) (by omega) (by have := congrArg List.length HO10.out.l; omega)
                  rw [Bf.run_ready Af.actO none d k hk hrk, Bf.go_code, show erOf es 0 = Value.nilIface from rfl] at HRn
                  have zi : (d.ready.length : Int) - 1 = ((d.ready.length - 1 : Nat) : Int) := by omega
                  clear HRun hj
                  have HRn := hid1 HRn
                  rw [HDl.out] at hk
                  have k0 : (0 : Int) ≤ (k : Int) := by omega
                  have k1 : (k : Int) < (l.length : Int) := by omega
                  have dk1 : decide ((k : Int) < 0) = false := by simp
                  have dk2 : decide ((l.length : Int) ≤ (k : Int)) = false := by simp; omega
                  have dk3 : decide (l.length ≤ k) = false := by simp; omega
                  have HLs := hid1 (Bf.go_less Af.actO none d k (by rw [HDl.out]; exact hk) hrk).1
                  have HRa := hid1 fun w11 S' => HRan.out w11 S' k hk hrk
                  clear HRan HO10
                  generalize Bf.go Af.actO none d k = G at *
                  generalize G.hit = hit at *
                  go_wp2_with fail
                  refine HRn.out.mono ?_
                  rintro e w11 ⟨rfl, hO11, S', SC', hB11, -, -, hS11, -⟩
                  obtain ⟨q1, q2, q3, q4⟩ := HRa.out w11 S' hO11 hB11 hS11
                  have HO12 := hid1 q4
                  clear HRn HRa q4 hO11 hB11 hS11
                  go_wp2
                  exact ⟨⟨t + 1, G.d, S', by omega, by go_num, HO12.out, by have := HLs.out; omega⟩, by simp [intOf]; omega⟩
        · have t1 : (rs.length : Int) + (l.length : Int) ≤ (t : Int) := by omega
          have HWz : Hid (d.waits = 0) := hid1 (by omega)
          have dz1 : decide ((t : Int) < (rs.length : Int) + (l.length : Int)) = false := by simp; omega
          have dz2 : decide (t < rs.length + l.length) = false := by simp; omega
          generalize wr = wF at *
          have HEnd := hid1 fun k (hk : k < l.length) => (HO.out.good.ends HWz.out (k := k) (by rw [HO.out.l]; exact hk))
          have HBad := hid1 fun k => HO.out.good.badTo (i := k)
          rw [HO.out.l] at HBad
          have HSt := hid1 fun V (g : Below wF.heap.size wF V) (i : Nat) (hi : i < l.length) => HBu.out.state S V pb (.pointer none) d (i : Nat) (HO.out.below HBu.out g).bat (by rw [HO.out.l]; omega) (by omega) (by omega)
          have HAt : Hid (∀ i : Nat, i < l.length → d.at (i : Nat) = d.st i) := hid1 fun i hi => by
            unfold Bf.Bd.at
            rw [HO.out.l, if_neg (by omega), Int.toNat_natCast]
          have HOv := hid1 fun V (g : Below wF.heap.size wF V) => HBu.out.over S V pb (.pointer none) d (HO.out.below HBu.out g).bat (by rw [HO.out.l]; omega)
          rw [HWz.out] at HOv
          have HRan := hid1 fun V (g : Below wF.heap.size wF V) (i : Nat) (hi : i < l.length) => (HO.out.below HBu.out g).own.cell hi
          have HBF := hid1 HO.out.base
          have HDl := hid1 HO.out.l
          clear HO
          go_wp2
          go_loopw [23] (fun iv wx => ∃ i : Nat, i ≤ l.length ∧ iv = .int .i64 i ∧ Below wF.heap.size wF wx) (fun iv _ => l.length - (intOf iv).toNat)
          case atStart => exact ⟨0, Nat.zero_le _, rfl, Below.refl _ _⟩
          case round =>
            obtain ⟨i, hi, rfl, hBx⟩ := hrel
            have i0 : (0 : Int) ≤ (i : Int) := by omega
            by_cases hilt : i < l.length
            · have i1 : (i : Int) < (l.length : Int) := by omega
              have HS1 := HSt.out wr hBx i hilt
              rw [HAt.out i hilt] at HS1
              have HS1 := hid1 HS1
              go_wp2_with fail
              refine HS1.out.mono ?_
              rintro e wS ⟨rfl, gS⟩
              have gS' := below_then hBx gS
              clear HS1 gS hBx
              generalize wr = wq at *
              go_wp2
              go_loopw [25, 26] (fun bv kv wx => ∃ k : Nat, k ≤ l.length ∧ kv = .int .i64 k ∧ bv = .bool (d.badTo i k) ∧ Below wF.heap.size wF wx) (fun _ kv _ => l.length - (intOf kv).toNat)
              case atStart => exact ⟨0, Nat.zero_le _, rfl, rfl, gS'⟩
              case round =>
                clear gS'
                obtain ⟨k, hk, rfl, rfl, hBy⟩ := hrel
                have k0 : (0 : Int) ≤ (k : Int) := by omega
                by_cases hklt : k < l.length
                · have k1 : (k : Int) < (l.length : Int) := by omega
                  have HNk := hid1 (HNr.out wr (HBF.out.trans (hBy.mono HBF.out.size)) (fun x hx => by have := (HSm.out x hx).many; omega) i k hilt hklt)
                  have HSu := hid1 (Bf.badTo_succ d i k)
                  rw [HDl.out] at HSu
                  have hn1 := Bf.St.name_failed (d.st k)
                  have hn2 := Bf.St.name_left (d.st k)
                  cases hnd : Ru.needs l i k with
                  | false =>
                    rw [hnd] at HNk HSu
                    clear hn1 hn2
                    go_wp2_with fail
                    refine HNk.out.mono ?_
                    rintro e wN ⟨rfl, q, rfl⟩
                    clear HNk
                    go_wp2
                    exact ⟨⟨k + 1, by omega, by go_num, by rw [HSu.out]; simp, below_draws hBy q⟩, by simp [intOf]; omega⟩
                  | true =>
                    rw [hnd] at HNk HSu
                    have HSk := hid1 fun V (g : Below wF.heap.size wF V) => HSt.out V g k hklt
                    rw [HAt.out k hklt] at HSk
                    cases hfl : (d.st k).isFailed with
                    | true =>
                      rw [hfl] at HSu hn1
                      clear hn2
                      go_wp2_with fail
                      refine HNk.out.mono ?_
                      rintro e wN ⟨rfl, q, rfl⟩
                      have gN := below_draws hBy q
                      have HSk2 := hid1 (HSk.out _ gN)
                      clear HNk HSk
                      go_wp2_with fail
                      refine HSk2.out.mono ?_
                      rintro e wM ⟨rfl, gM⟩
                      have gM' := below_then gN gM
                      clear HSk2
                      go_wp2
                      exact ⟨⟨k + 1, by omega, by go_num, by rw [HSu.out]; simp, gM'⟩, by simp [intOf]; omega⟩
                    | false =>
                      rw [hfl] at HSu hn1
                      go_wp2_with fail
                      refine HNk.out.mono ?_
                      rintro e wN ⟨rfl, q, rfl⟩
                      have gN := below_draws hBy q
                      have HSk2 := hid1 (HSk.out _ gN)
                      clear HNk
                      go_wp2_with fail
                      refine HSk2.out.mono ?_
                      rintro e wM ⟨rfl, gM⟩
                      have gM' := below_then gN gM
                      have HSk3 := hid1 (HSk.out _ gM')
                      clear HSk2 HSk
                      go_wp2_with fail
                      refine HSk3.out.mono ?_
                      rintro e wP ⟨rfl, gP⟩
                      have gP' := below_then gM' gP
                      clear HSk3
                      cases hlf : (d.st k).isLeft with
                      | true =>
                        rw [hlf] at HSu hn2
                        go_wp2
                        exact ⟨⟨k + 1, by omega, by go_num, by rw [HSu.out]; simp, gP'⟩, by simp [intOf]; omega⟩
                      | false =>
                        rw [hlf] at HSu hn2
                        go_wp2
                        exact ⟨⟨k + 1, by omega, by go_num, by rw [HSu.out]; simp, gP'⟩, by simp [intOf]; omega⟩
                · have k1 : (l.length : Int) ≤ (k : Int) := by omega
                  obtain rfl : k = l.length := by omega
                  have hcell := HRan.out wr hBy i hilt
                  obtain ⟨hst, hrn⟩ := HEnd.out i hilt
                  simp only [hrn] at hcell
                  have hbd := HBad.out i
                  rw [hbd]
                  have n1 := Bf.St.name_done (d.st i)
                  have n2 := Bf.St.name_failed (d.st i)
                  have n3 := Bf.St.name_left (d.st i)
                  clear hrn hbd
                  cases hl3 : (d.st i).isLeft with
                  | true =>
                    have f1 : (d.st i).isDone = false := by cases hs : d.st i <;> rw [hs] at hl3 <;> first | rfl | cases hl3
                    have f2 : (d.st i).isFailed = false := by cases hs : d.st i <;> rw [hs] at hl3 <;> first | rfl | cases hl3
                    rw [f1] at n1
                    rw [f2] at n2
                    rw [hl3] at n3 hcell
                    clear f1 f2 hl3 hst
                    simp only [Bool.not_true] at hcell
                    go_wp2
                    exact ⟨⟨i + 1, by omega, by go_num, hBy⟩, by simp [intOf]; omega⟩
                  | false =>
                    rw [hl3] at n3 hcell
                    simp only [Bool.not_false] at hcell
                    cases hd3 : (d.st i).isDone with
                    | true =>
                      rw [hd3] at n1
                      clear n2 hst hl3 hd3
                      go_wp2
                      exact ⟨⟨i + 1, by omega, by go_num, hBy⟩, by simp [intOf]; omega⟩
                    | false =>
                      have f2 : (d.st i).isFailed = true := by
                        rcases hst with h | h | h
                        · rw [hd3] at h; cases h
                        · exact h
                        · rw [hl3] at h; cases h
                      rw [hd3] at n1
                      rw [f2] at n2
                      clear f2 hst hl3 hd3
                      go_wp2
                      exact ⟨⟨i + 1, by omega, by go_num, hBy⟩, by simp [intOf]; omega⟩
            · have i1 : (l.length : Int) ≤ (i : Int) := by omega
              have HOo := hid1 (HOv.out wr hBx)
              clear HOv
              go_wp2_with fail
              refine HOo.out.mono ?_
              rintro e wZ ⟨rfl, gZ⟩
              have gZ' := below_then (HBF.out.trans (hBx.mono HBF.out.size)) gZ
              clear HOo
              go_wp2
              go_ret
              exact ⟨rfl, gZ'⟩
end Go.Proofs.YtflbofdpfgkmcaaGreatDoor
