import Derived.Test.YtmhipgompplkdaaGreatDoorBS45
import Derived.Test.YtmhipgompplkdaaGreatDoorBS44
import Derived.Test.YtmhipgompplkdaaGreatDoorBS41
import Derived.Deep.RegionHeld3
namespace Go.Proofs.YtmhipgompplkdaaGreatDoor
open Go.RowKit Go.Shelf Go.Lib
theorem BuildW.want {w : World} {es : Nat → Addr} (h : BuildW w es) : WantW w es := ⟨h.g, h.shape, h.none⟩
set_option maxRecDepth 100000 in
set_option maxHeartbeats 64000000 in
theorem BuildSame_calls {es : Nat → Addr} {At : (Nat → Prop) → World → Value → Nat → Cf.Ens → Prop} {BAt : (Nat → Prop) → World → Value → Value → Bf.Bd → Prop} (HB : Builds es Af.actO At BAt) (HC : Caches0 es At) {W : World} (hW : BuildW W es) (hE : TErr W (erOf es)) (vf : Value) (fl : Tf.Fs) (hF : FIRow W vf fl) (vl : Value) (l : List Ru) (hR : RRow W vl l) (vr : Value) (rs : List Int) (hZ : ZRow W vr rs) (hrs : ∀ x ∈ rs, -9223372036854775808 ≤ x ∧ x ≤ 9223372036854775807) (many : Int) (hm0 : -9223372036854775808 ≤ many) (hm1 : many ≤ 9223372036854775807) :
    Calls Tryz.prog 8 #[vf, vl, vr, .int .i64 many] W fun e w' => e = .returned (.bool true) ∧ Below W.heap.size W w' := by
  have HBu := hid1 HB
  have HCa := hid1 HC
  have HW := hid1 (BuildB.of hW)
  have HE := hid1 hE
  have HBt := hid1 (built_calls HB HC hW hE)
  have HLf := hid1 fun V (g : Below W.heap.size W V) => longFiles_calls (w := V) vf fl (hF.below g)
  have HLr := hid1 fun V (g : Below W.heap.size W V) => LongRules_any (w := V) vl l 12 (by omega) (hR.below g)
  have HFt := hid1 fun V (g : Below W.heap.size W V) (hs : ShortF fl) => fileTree_calls (w := V) (hE.below g) vf fl (hF.below g) hs
  have HOr := hid1 fun V (g : Below W.heap.size W V) (hl : l.length ≤ 1000) (h12 : ∀ x ∈ l, x.ins.length ≤ 12) => OwnRules_calls (w := V) vl l hl (hR.below g) h12
  have HRs := hid1 hrs
  obtain ⟨pf, cf, rfl, -⟩ := hF
  obtain ⟨pr, cr, rfl, hzc⟩ := hZ
  obtain ⟨pl, cl, rfl, hcl, hnl, hlc⟩ := hR
  have HZc := hid1 hzc
  have HLc := hid1 hlc
  obtain ⟨iS, hiS, hS0, hS1, hS2⟩ := info_parts Tryz.infoStr
  clear HB HC hW hE hrs hzc hlc hcl hnl
  go_enter Tryz.func8, Tryz.ntmps8
  go_wp2_with fail
  refine HBt.out.mono ?_
  rintro e w1 ⟨rfl, g1⟩
  have HL1 := hid1 (HLf.out w1 g1)
  clear HBt HLf
  go_wp2_with fail
  refine HL1.out.mono ?_
  rintro e w2 ⟨b, rfl, rfl, hb⟩
  clear HL1
  cases b with
  | true =>
    clear hb HFt HOr HLr
    go_wp2
    go_ret
    exact ⟨rfl, g1⟩
  | false =>
  have hs := hb.resolve_left (by simp)
  have HL2 := hid1 (HLr.out w2 g1)
  clear HLr hb
  go_wp2_with fail
  refine HL2.out.mono ?_
  rintro e w3 ⟨r, rfl, rfl, hr⟩
  clear HL2
  rcases hr with rfl | ⟨rfl, hlen, hsm⟩
  · clear HFt HOr
    go_wp2
    go_ret
    exact ⟨rfl, g1⟩
  by_cases hr60 : 60 < rs.length
  · have z60 : (60 : Int) < (rs.length : Int) := by omega
    clear HFt HOr
    go_wp2
    go_ret
    exact ⟨rfl, g1⟩
  have z60 : (rs.length : Int) ≤ 60 := by omega
  by_cases hmlo : many < 1
  · clear HFt HOr
    go_wp2
    go_ret
    exact ⟨rfl, g1⟩
  have hmlo' : 1 ≤ many := by omega
  by_cases hmhi : 100 < many
  · clear HFt HOr
    go_wp2
    go_ret
    exact ⟨rfl, g1⟩
  obtain ⟨m, rfl⟩ : ∃ m : Nat, many = m := ⟨many.toNat, by omega⟩
  have m1 : 1 ≤ m := by omega
  have m100 : m ≤ 100 := by omega
  have mi1 : (1 : Int) ≤ (m : Int) := by omega
  have mi100 : (m : Int) ≤ 100 := by omega
  have HF3 := hid1 (HFt.out w3 g1 hs)
  have HSm := hid1 hsm
  have HSh := hid1 hs
  have hl41 : l.length ≤ 41 := by omega
  have zl : (l.length : Int) ≤ 41 := by omega
  have HLen := hid1 hlen
  clear HFt hs hsm hlen hr60 hmlo hmhi hmlo'
  go_wp2_with fail
  refine HF3.out.mono ?_
  rintro e w4 ⟨T, M, oT, uT, rfl, hBo, g4⟩
  have G4 := below_then g1 g4
  have HT4 := hid1 hBo.t
  have HWl := hid1 hBo.well
  have HMk := hid1 (HCa.out.make w4 m m1 m100)
  have HFl : Hid (∀ f ∈ Tf.taken fl, f.1.length ≤ 1000 ∧ f.2.length ≤ 2000) := hid1 fun f hf => ⟨by have := HSh.out.path f (Tf.taken_mem _ f hf); omega, (hBo.well.each f hf).2⟩
  clear HF3 hBo g4 g1 HSh
  generalize Tf.taken fl = fs at *
  go_wp2_with fail
  refine HMk.out.mono ?_
  rintro e w5 ⟨pc, SC, rfl, g5, hA5, hS5⟩
  have HA5 := hid1 (And.intro hA5 hS5)
  have G5 := below_then G4 g5
  have HT5 := hid1 (HT4.out.below g5)
  have hz45 := g5.size
  have hz4 := G4.size
  clear HMk hA5 hS5
  go_wp2
  go_loopw [14, 15] (fun ov iv wr => ∃ k : Nat, k ≤ l.length ∧ iv = .int .i64 k ∧ wr.ownsRow w5.heap.size 9 1 ov k ((l.take k).map fun r => sv r.out) ∧ Below w5.heap.size w5 wr) (fun _ iv _ => l.length - (intOf iv).toNat)
  case atStart => exact ⟨0, Nat.zero_le _, rfl, World.ownsRow_nil _ _ _ _, Below.refl _ _⟩
  case round =>
    obtain ⟨k, hk, rfl, hrow, hB⟩ := hrel
    have k0 : (0 : Int) ≤ (k : Int) := by omega
    by_cases hlt : k < l.length
    · have k1 : (k : Int) < (l.length : Int) := by omega
      obtain ⟨g, og, rfl, hg, hc⟩ := HLc.out (by intro e; rw [e] at hlt; simp at hlt)
      obtain ⟨b0, -⟩ := hc k hlt
      have c0 := cell_below' (cell_below' b0 G5) hB
      have HTk : Hid ((l.take (k + 1)).map (fun r => sv r.out) = (l.take k).map (fun r => sv r.out) ++ [sv l[k].out]) := hid1 (by
        rw [List.take_succ_eq_append_getElem hlt, List.map_append]
        rfl)
      have hml : k + 1 ≤ maxLen := by unfold maxLen; omega
      have hbz := hB.size
      clear hc b0 HLc HOr
      generalize l[k] = y at *
      go_wp2_with (first
        | (at_builtin; refine wpList_append_own _ rfl _ _ 45 rfl w5.heap.size 9 iS (.string ⟨#[]⟩) 1 16 Tryz.underlying45 hiS hS0 hS1 hS2 rfl (by decide) _ _ _ rfl (hrow.alloc _) ⟨wr.heap.size, 0, none⟩ 1 1 [sv y.out] rfl rfl (one_new _ _ _ _ (by simp)) (by simp [Value.oneCell']) hml (by omega) (by simp; omega) ?_; intro v' w5' hown' hgrow _)
        | fail)
      exact ⟨⟨k + 1, by omega, by go_num, by rw [HTk.out]; exact hown', below_appended hB hbz hrow hgrow⟩, by simp [intOf]; omega⟩
    · have k1 : (l.length : Int) ≤ (k : Int) := by omega
      obtain rfl : k = l.length := by omega
      have hX : XRow wr u14 (l.map Ru.out) := XRow.of_owns (n := l.length) (by
        have := hrow
        rw [List.take_length] at this
        rw [List.map_map]
        exact this)
      have HX := hid1 hX
      have G5r := below_then G5 hB
      have HO5 := hid1 (HOr.out wr G5r (by omega) fun x hx => (HSm.out x hx).many)
      have HNew := hid1 fun (V : World) (cv : Value) (hcv : ∃ q, cv = .pointer q) (g : Below wr.heap.size wr V) (v : Value) (hv : RRow V v l) => HBu.out.new V _ T fs oT v l _ (l.map Ru.out) cv (HW.out.below (below_then G5r g)).w (HT5.out.below (below_then hB g)) HWl.out.rises (by have := HWl.out.few; omega) HFl.out hv (by omega) HSm.out (HX.out.below g) (by simp; omega) (fun x hx => by obtain ⟨r, hr, rfl⟩ := List.mem_map.1 hx; have := (HSm.out r hr).out; omega) hcv
      have HBw := hid1 hB
      obtain ⟨po, co, rfl⟩ := own_val hrow
      generalize wr = w55 at *
      clear hX hrow HX
      by_cases hP : (Ru.fault l).1 = 0 ∧ (∀ j (hj : j < (l.map Ru.out).length), ∃ x ∈ l, x.out = (l.map Ru.out)[j]) ∧ (Ru.order l (Bf.need l (l.map Ru.out))).isSome = true
      · obtain ⟨ord, hord⟩ := Option.isSome_iff_exists.1 hP.2.2
        have hSh : Bf.Sheet fs l ord := ⟨hP.1, hord⟩
        have HSt := hid1 hSh
        have HFt0 := hid1 hP.1
        have h40 := (Ru.fault_ok hP.1).1
        have hl12 : l.length ≤ 12 := by have := HLen.out; omega
        have zl12 : (l.length : Int) ≤ 12 := by omega
        have HNok : Hid (∀ (n : Nat) (cv : Value) (w : World) (bv ev : Value), NewTells es BAt n fs l (l.map Ru.out) cv w bv ev → ev = .nilIface ∧ ∃ p S, bv = .pointer (some p) ∧ BAt S w bv cv (Bf.init fs l (l.map Ru.out)) ∧ ∀ k, S k → n ≤ k) := hid1 fun n cv w bv ev h => by
          rcases h.err with ⟨_, _, h3⟩ | ⟨_, _, _, h4, h5⟩
          · exact absurd hP h3
          · exact ⟨h4, h5⟩
        clear hP hord hSh
        go_wp2_with fail
        refine HO5.out.mono ?_
        rintro e w6 ⟨v6, rfl, hR6, g6⟩
        have HN6 := hid1 (HNew.out w6 (.pointer (some pc)) ⟨_, rfl⟩ g6 v6 hR6)
        obtain ⟨p6, c6, rfl, -⟩ := hR6
        clear HO5
        go_wp2_with fail
        refine HN6.out.mono ?_
        rintro e w7 ⟨bva, eva, rfl, g7, hN7⟩
        obtain ⟨rfl, pa, Sa, rfl, hBa, hSa⟩ := HNok.out _ _ _ _ _ hN7
        have g57 := below_then g6 g7
        have HO7 := hid1 (HOr.out w7 (below_then G5r g57) (by omega) fun x hx => (HSm.out x hx).many)
        have HBa := hid1 (And.intro hBa hSa)
        have hz6 := g6.size
        have hz7 := g7.size
        clear HN6 hN7 hBa hSa
        go_wp2_with fail
        refine HO7.out.mono ?_
        rintro e w8 ⟨v8, rfl, hR8, g8⟩
        have g58 := below_then g57 g8
        have HN8 := hid1 (HNew.out w8 (.pointer none) ⟨_, rfl⟩ g58 v8 hR8)
        obtain ⟨p8, c8, rfl, -⟩ := hR8
        clear HO7
        go_wp2_with fail
        refine HN8.out.mono ?_
        rintro e w9 ⟨bvb, evb, rfl, g9, hN9⟩
        obtain ⟨rfl, pb, Sb, rfl, hBb, hSb⟩ := HNok.out _ _ _ _ _ hN9
        have g59 := below_then g58 g9
        have HO9 := hid1 (HOr.out w9 (below_then G5r g59) (by omega) fun x hx => (HSm.out x hx).many)
        have HBb := hid1 (And.intro hBb hSb)
        have hz8 := g8.size
        have hz9 := g9.size
        clear HN8 hN9 hBb hSb
        go_wp2_with fail
        refine HO9.out.mono ?_
        rintro e w10 ⟨v10, rfl, hR10, g10⟩
        have g510 := below_then g59 g10
        have HN10 := hid1 (HNew.out w10 (.pointer (some pc)) ⟨_, rfl⟩ g510 v10 hR10)
        obtain ⟨p10, c10, rfl, -⟩ := hR10
        clear HO9 HNew
        go_wp2_with fail
        refine HN10.out.mono ?_
        rintro e w11 ⟨bvd, evd, rfl, g11, hN11⟩
        obtain ⟨rfl, pd, Sd, rfl, hBd, hSd⟩ := HNok.out _ _ _ _ _ hN11
        have g511 := below_then g510 g11
        have hz10 := g10.size
        have hz11 := g11.size
        have HTri : Hid (Tri At BAt w4 pa pb pd (.pointer (some pc)) (Bf.init fs l (l.map Ru.out)) (Bf.init fs l (l.map Ru.out)) (Bf.init fs l (l.map Ru.out)) (some (m, [])) Sa Sb Sd SC w11) := hid1 (by
          have a1 := HBu.out.lt _ _ _ _ _ HBa.out.1
          have b1 := HBu.out.lt _ _ _ _ _ HBb.out.1
          have d1 := HBu.out.lt _ _ _ _ _ hBd
          have c1 := HCa.out.lt _ _ _ _ _ HA5.out.1
          have ga := below_then (below_then g8 g9) (below_then g10 g11)
          have gb := below_then g10 g11
          have gc := below_then HBw.out g511
          have hz5 := HBw.out.size
          refine ⟨HBu.out.same _ _ _ _ _ _ HBa.out.1 ga.size fun k hk => ga.block k (a1 k hk), HBu.out.same _ _ _ _ _ _ HBb.out.1 gb.size fun k hk => gb.block k (b1 k hk), hBd, ⟨⟨_, rfl⟩, HCa.out.same _ _ _ _ _ _ HA5.out.1 gc.size fun k hk => gc.block k (c1 k hk)⟩, fun j h1 h2 => ?_, fun j h1 h2 => ?_, fun j h1 h2 => ?_, fun j h1 h2 => ?_, fun j h1 h2 => ?_, fun j h1 h2 => ?_, fun j hj => ?_, fun j hj => ?_, fun j hj => ?_, HA5.out.2, g5.trans (gc.mono hz45)⟩
          · have := a1 j h1; have := HBb.out.2 j h2; omega
          · have := a1 j h1; have := hSd j h2; omega
          · have := c1 j h2; have := HBa.out.2 j h1; omega
          · have := b1 j h1; have := hSd j h2; omega
          · have := c1 j h2; have := HBb.out.2 j h1; omega
          · have := c1 j h2; have := hSd j h1; omega
          · have := HBa.out.2 j hj; omega
          · have := HBb.out.2 j hj; omega
          · have := hSd j hj; omega)
        have HG0 : Hid (Bf.Going fs l ord (Bf.init fs l (l.map Ru.out)) (some (m, []))) := hid1 (Bf.Going.init HSt.out (fun f hf => (HFl.out f hf).2) ⟨by omega, by omega, Cf.Ok.nil m, by simp⟩ (fun e he => by simp at he))
        have HGn : Hid (Bf.Going fs l ord (Bf.init fs l (l.map Ru.out)) none) := hid1 (Bf.Going.init HSt.out (fun f hf => (HFl.out f hf).2) trivial trivial)
        have HH0 : Hid (l.length ≤ m → Bf.CHeld (Bf.want Af.actO fs l) (Bf.init fs l (l.map Ru.out)) (some (m, []))) := hid1 fun h => ⟨h, Bf.Held.nil fun k => by
          rw [Bf.init_all]
          split <;> rfl⟩
        clear HN10 hN11 hBd hSd HBa HBb HA5 HNok g6 g7 g8 g9 g10 g11 g57 g58 g59 g510
        go_wp2
        go_loopw [22] (fun iv wr => ∃ (k : Nat) (da : Bf.Bd) (ens : Cf.Ens) (Sa SC : Nat → Prop), k ≤ rs.length ∧ iv = .int .i64 k ∧ Tri At BAt w4 pa pb pd (.pointer (some pc)) da (Bf.init fs l (l.map Ru.out)) (Bf.init fs l (l.map Ru.out)) (some (m, ens)) Sa Sb Sd SC wr ∧ Bf.Going fs l ord da (some (m, ens)) ∧ (l.length ≤ m → Bf.CHeld (Bf.want Af.actO fs l) da (some (m, ens)))) (fun iv _ => rs.length - (intOf iv).toNat)
        case atStart => exact ⟨0, _, [], Sa, SC, Nat.zero_le _, rfl, HTri.out, HG0.out, HH0.out⟩
        case round =>
          clear HTri HG0 HH0
          obtain ⟨k, da, ens, Sa, SC, hk, rfl, hTr, hGo, hHe⟩ := hrel
          have HTr := hid1 hTr
          have HGo := hid1 hGo
          have HHe := hid1 hHe
          have k0 : (0 : Int) ≤ (k : Int) := by omega
          have gW := below_then G4 hTr.base
          by_cases hklt : k < rs.length
          · have k1 : (k : Int) < (rs.length : Int) := by omega
            obtain ⟨g, oi, rfl, hg, hc⟩ := HZc.out (by intro e; rw [e] at hklt; simp at hklt)
            have e0 := (gW.cell (p := ⟨g, oi + k, none⟩) hg).trans (hc k hklt)
            have hbn := HRs.out _ (List.getElem_mem hklt)
            clear hc HZc hTr hGo hHe
            generalize rs[k] = n at *
            have HRu := hid1 (HBu.out.run W.heap.size Sa SC wr pa (.pointer (some pc)) da (some (m, ens)) n HTr.out.a HTr.out.c HTr.out.ac (HW.out.trans gW) (fun j hj => Nat.le_trans hz4 (HTr.out.la j hj)) (fun j hj => Nat.le_trans hz4 (HTr.out.lc j hj)) (by rw [HGo.out.hl]; exact HFt0.out) (by rw [HGo.out.hl]; exact HSm.out) HGo.out.fit HGo.out.cfit hbn.1 hbn.2)
            have HGo2 := hid1 (HGo.out.run HSt.out n)
            have HHe2 : Hid (l.length ≤ m → Bf.CHeld (Bf.want Af.actO fs l) (Bf.run Af.actO (some (m, ens)) da n).d (Bf.run Af.actO (some (m, ens)) da n).c) := hid1 fun h => Bf.run_held (HGo.out.wanted HSt.out) HGo.out.makes (HHe.out h) n
            obtain ⟨ens2, hens2⟩ : ∃ ens2, (Bf.run Af.actO (some (m, ens)) da n).c = some (m, ens2) := Bf.run_room _ _ _ _ _
            rw [hens2] at HRu HGo2 HHe2
            obtain ⟨rh, rc, hrh, hrc⟩ : ∃ rh rc, (Bf.run Af.actO (some (m, ens)) da n).hit = rh ∧ erOf es (Bf.run Af.actO (some (m, ens)) da n).code = rc := ⟨_, _, rfl, rfl⟩
            rw [hrh, hrc] at HRu
            generalize (Bf.run Af.actO (some (m, ens)) da n).d = da2 at *
            clear hrh hrc hens2 HHe HGo
            go_wp2_with fail
            refine HRu.out.mono ?_
            rintro e w12 ⟨rfl, hO12, Sa2, SC2, hBA2, hCA2, hac2, hS2, hT2⟩
            have HTr2 := hid1 (HTr.out.ran HBu.out hO12 hBA2 hCA2 hac2 hS2 hT2)
            clear HRu HTr hO12 hBA2 hCA2 hac2 hS2 hT2
            go_wp2
            exact ⟨⟨k + 1, da2, ens2, Sa2, SC2, by omega, by go_num, HTr2.out, HGo2.out, HHe2.out⟩, by simp [intOf]; omega⟩
          · have k1 : (rs.length : Int) ≤ (k : Int) := by omega
            have HAl := hid1 (HBu.out.all W.heap.size Sa SC wr pa (.pointer (some pc)) da (some (m, ens)) HTr.out.a HTr.out.c HTr.out.ac (HW.out.trans gW) (fun j hj => Nat.le_trans hz4 (HTr.out.la j hj)) (fun j hj => Nat.le_trans hz4 (HTr.out.lc j hj)) (by rw [HGo.out.hl]; exact HFt0.out) (by rw [HGo.out.hl]; exact HSm.out) HGo.out.fit HGo.out.cfit)
            have hGA := HGo.out.all HSt.out
            have hHA : l.length ≤ m → Bf.CHeld (Bf.want Af.actO fs l) (Bf.all Af.actO (some (m, ens)) da).1 (Bf.all Af.actO (some (m, ens)) da).2 := fun h => Bf.allF_held _ (HGo.out.wanted HSt.out) (HGo.out.at HSt.out) HGo.out.sound HGo.out.makes (HHe.out h)
            obtain ⟨ensA, hensA⟩ : ∃ ensA, (Bf.all Af.actO (some (m, ens)) da).2 = some (m, ensA) := Bf.allF_room _ _ _ _ _
            rw [hensA] at HAl hGA hHA
            generalize (Bf.all Af.actO (some (m, ens)) da).1 = dA at *
            have HGA := hid1 hGA
            have HHA := hid1 hHA
            have sumA := hGA.1.count hGA.2
            have HDA := hid1 (And.intro sumA rfl : (dA.ran + dA.hits + dA.fails + dA.lefts = l.length) ∧ dA.ran + dA.hits = dA.ran + dA.hits)
            obtain ⟨ra, era⟩ : ∃ x, dA.ran = x := ⟨_, rfl⟩
            obtain ⟨ha, eha⟩ : ∃ x, dA.hits = x := ⟨_, rfl⟩
            obtain ⟨fa, efa⟩ : ∃ x, dA.fails = x := ⟨_, rfl⟩
            obtain ⟨la, ela⟩ : ∃ x, dA.lefts = x := ⟨_, rfl⟩
            have HEA := hid1 (And.intro era eha)
            rw [era, eha, efa, ela] at HAl sumA
            have HSA := hid1 sumA
            have ra12 : ra ≤ 12 := by omega
            have ha12 : ha ≤ 12 := by omega
            have fa12 : fa ≤ 12 := by omega
            have la12 : la ≤ 12 := by omega
            clear sumA
            clear hensA hGA hHA era eha efa ela HZc HRs hTr hGo hHe HGo HHe HDA
            go_wp2_with fail
            refine HAl.out.mono ?_
            rintro e w12 ⟨rfl, hO12, SaA, SCA, hBA2, hCA2, hac2, hS2, hT2⟩
            have HTA := hid1 (HTr.out.ran HBu.out hO12 hBA2 hCA2 hac2 hS2 hT2)
            have gA : Below w12.heap.size w12 (w12.alloc (.cells #[.int .i64 (ra : Nat), .int .i64 (ha : Nat), .int .i64 (fa : Nat), .int .i64 (la : Nat)] 106)) := (Below.refl _ w12).alloc (Nat.le_refl _) _
            have HT13 := hid1 (HTA.out.below HBu.out HCa.out gA)
            have HrA := hid1 (row_newW w12 (.cells #[.int .i64 (ra : Nat), .int .i64 (ha : Nat), .int .i64 (fa : Nat), .int .i64 (la : Nat)] 106))
            have hbl := HBu.out.lt _ _ _ _ _ HTA.out.b
            have hdl := HBu.out.lt _ _ _ _ _ HTA.out.d
            have hcl := HTA.out.c.ltG HCa.out
            have HLb := hid1 (And.intro hbl (And.intro hdl hcl))
            have HAB := hid1 (HBu.out.all W.heap.size Sb (fun _ => False) (w12.alloc (.cells #[.int .i64 (ra : Nat), .int .i64 (ha : Nat), .int .i64 (fa : Nat), .int .i64 (la : Nat)] 106)) pb (.pointer none) (Bf.init fs l (l.map Ru.out)) none HT13.out.b ⟨rfl, fun j h => h⟩ (fun _ _ h => h) (HW.out.trans (below_then G4 HT13.out.base)) (fun j hj => Nat.le_trans hz4 (HT13.out.lb j hj)) (fun _ h => h.elim) HFt0.out HSm.out HGn.out.fit trivial)
            have hGB := HGn.out.all HSt.out
            have hFr : Bf.Fresh (Bf.all Af.actO none (Bf.init fs l (l.map Ru.out))).1 := Bf.allF_fresh _ fun k s b e => absurd e (Bf.init_waits k s b)
            have hB2 : (Bf.all Af.actO none (Bf.init fs l (l.map Ru.out))).2 = none ∨ True := .inr trivial
            clear hB2 HAl HTr hO12 hBA2 hCA2 hac2 hS2 hT2 HTA hbl hdl hcl gA
            generalize (Bf.all Af.actO none (Bf.init fs l (l.map Ru.out))).1 = dB at *
            have HGB := hid1 hGB
            have sumB := hGB.1.count hGB.2
            have hitB := Bf.fresh_hits hFr
            obtain ⟨rb, erb⟩ : ∃ x, dB.ran = x := ⟨_, rfl⟩
            obtain ⟨hb, ehb⟩ : ∃ x, dB.hits = x := ⟨_, rfl⟩
            obtain ⟨fb, efb⟩ : ∃ x, dB.fails = x := ⟨_, rfl⟩
            obtain ⟨lb, elb⟩ : ∃ x, dB.lefts = x := ⟨_, rfl⟩
            rw [erb, ehb, efb, elb] at HAB sumB
            rw [ehb] at hitB
            have HSB := hid1 (And.intro sumB hitB)
            have rb12 : rb ≤ 12 := by omega
            have fb12 : fb ≤ 12 := by omega
            have lb12 : lb ≤ 12 := by omega
            clear hGB hFr hitB erb ehb efb elb sumB
            generalize hw13 : w12.alloc (.cells #[.int .i64 (ra : Nat), .int .i64 (ha : Nat), .int .i64 (fa : Nat), .int .i64 (la : Nat)] 106) = w13 at *
            have hz1213 : w13.heap.size = w12.heap.size + 1 := by rw [← hw13]; simp
            have HZ13 := hid1 hz1213
            clear hz1213
            go_wp2_with fail
            refine HAB.out.mono ?_
            rintro e w14 ⟨rfl, hO14, SbB, SCB, hBB2, -, -, hSB2, -⟩
            have HTB := hid1 (HT13.out.ranB HBu.out HCa.out hO14 hBB2 hSB2)
            have HrA14 : Hid (w14.heap[w12.heap.size]? = some (.cells #[.int .i64 (ra : Nat), .int .i64 (ha : Nat), .int .i64 (fa : Nat), .int .i64 (la : Nat)] 106)) := hid1 ((hO14.block _ (by rw [HZ13.out]; omega) fun e => by
              rcases e with e | e
              · have := HLb.out.1 _ e
                omega
              · exact e).trans HrA.out)
            have hz14 : w12.heap.size < w14.heap.size := by have := hO14.size; have := HZ13.out; omega
            have gB : Below w14.heap.size w14 (w14.alloc (.cells #[.int .i64 (rb : Nat), .int .i64 (hb : Nat), .int .i64 (fb : Nat), .int .i64 (lb : Nat)] 106)) := (Below.refl _ w14).alloc (Nat.le_refl _) _
            have HT15 := hid1 (HTB.out.below HBu.out HCa.out gB)
            have HrA15 := hid1 (row_below HrA14.out gB)
            have HrB15 := hid1 (row_newW w14 (.cells #[.int .i64 (rb : Nat), .int .i64 (hb : Nat), .int .i64 (fb : Nat), .int .i64 (lb : Nat)] 106))
            have HGD0 : Hid (Bf.Going fs l ord (Bf.init fs l (l.map Ru.out)) (some (m, ensA))) := hid1 (Bf.Going.init HSt.out (fun f hf => (HFl.out f hf).2) HGA.out.1.cfit HGA.out.1.sound)
            have HAD := hid1 (HBu.out.all W.heap.size Sd SCA (w14.alloc (.cells #[.int .i64 (rb : Nat), .int .i64 (hb : Nat), .int .i64 (fb : Nat), .int .i64 (lb : Nat)] 106)) pd (.pointer (some pc)) (Bf.init fs l (l.map Ru.out)) (some (m, ensA)) HT15.out.d HT15.out.c HT15.out.dc (HW.out.trans (below_then G4 HT15.out.base)) (fun j hj => Nat.le_trans hz4 (HT15.out.ld j hj)) (fun j hj => Nat.le_trans hz4 (HT15.out.lc j hj)) HFt0.out HSm.out HGD0.out.fit HGD0.out.cfit)
            have hGD := HGD0.out.all HSt.out
            have hFd : l.length ≤ m → Bf.Found (Bf.all Af.actO (some (m, ensA)) (Bf.init fs l (l.map Ru.out))).1 := fun h => Bf.allF_full _ (HGD0.out.wanted HSt.out) (HGD0.out.at HSt.out) HGD0.out.sound HGD0.out.makes (HGA.out.1.full HSt.out HGA.out.2 (HHA.out h)) fun k s b e => absurd e (Bf.init_waits k s b)
            have hdn := hGD.1.dones HSt.out hGD.2 HGA.out.1 HGA.out.2
            obtain ⟨ensD, hensD⟩ : ∃ ensD, (Bf.all Af.actO (some (m, ensA)) (Bf.init fs l (l.map Ru.out))).2 = some (m, ensD) := Bf.allF_room _ _ _ _ _
            rw [hensD] at HAD hGD
            generalize (Bf.all Af.actO (some (m, ensA)) (Bf.init fs l (l.map Ru.out))).1 = dD at *
            have HGD := hid1 hGD
            have sumD := hGD.1.count hGD.2
            have hrd0 : l.length ≤ m → dD.ran = 0 := fun h => Bf.found_ran (hFd h)
            rw [HEA.out.1, HEA.out.2] at hdn
            obtain ⟨rd, erd⟩ : ∃ x : Int, (dD.ran : Int) = x := ⟨_, rfl⟩
            obtain ⟨hd, ehd⟩ : ∃ x, dD.hits = x := ⟨_, rfl⟩
            obtain ⟨fd, efd⟩ : ∃ x, dD.fails = x := ⟨_, rfl⟩
            obtain ⟨ld, eld⟩ : ∃ x, dD.lefts = x := ⟨_, rfl⟩
            rw [ehd, efd, eld] at HAD sumD
            rw [ehd] at hdn
            rw [erd] at HAD
            have rd0 : 0 ≤ rd := by omega
            have rd12 : rd ≤ 12 := by omega
            have HSD : Hid (rd + hd + fd + ld = l.length ∧ rd + hd = ra + ha ∧ (l.length ≤ m → rd = 0)) := hid1 ⟨by omega, by omega, fun h => by have := hrd0 h; omega⟩
            have hd12 : hd ≤ 12 := by omega
            have fd12 : fd ≤ 12 := by omega
            have ld12 : ld ≤ 12 := by omega
            clear hGD hFd hdn hensD sumD hrd0 erd ehd efd eld HAB HT13 hO14 hBB2 hSB2 HTB HrA HrA14 gB HGD0 HEA HHA HZ13 hw13
            generalize hw15 : w14.alloc (.cells #[.int .i64 (rb : Nat), .int .i64 (hb : Nat), .int .i64 (fb : Nat), .int .i64 (lb : Nat)] 106) = w15 at *
            have HZ15 : Hid (w15.heap.size = w14.heap.size + 1) := hid1 (by rw [← hw15]; simp)
            go_wp2_with fail
            refine HAD.out.mono ?_
            rintro e w16 ⟨rfl, hO16, SdD, SCD, hBD2, hCD2, hdc2, hSD2, hTD2⟩
            have HTD := hid1 ((HT15.out.swap.ran HBu.out hO16 hBD2 hCD2 hdc2 hSD2 hTD2).swap)
            have hnot : ∀ j, w12.heap.size ≤ j → ¬ (Sd j ∨ SCA j) := fun j hj e => by
              rcases e with e | e
              · have := HLb.out.2.1 _ e
                omega
              · have := HLb.out.2.2 _ e
                omega
            have rA16 := (hO16.block _ (by have := HZ15.out; omega) (hnot _ (Nat.le_refl _))).trans HrA15.out
            have rB16 := (hO16.block _ (by have := HZ15.out; omega) (hnot _ (by omega))).trans HrB15.out
            have hz16 : w14.heap.size < w16.heap.size := by have := hO16.size; have := HZ15.out; omega
            have gD : Below w16.heap.size w16 (w16.alloc (.cells #[.int .i64 rd, .int .i64 (hd : Nat), .int .i64 (fd : Nat), .int .i64 (ld : Nat)] 106)) := (Below.refl _ w16).alloc (Nat.le_refl _) _
            have HT17 := hid1 (HTD.out.below HBu.out HCa.out gD)
            have rA17 := row_below rA16 gD
            have rB17 := row_below rB16 gD
            have rD17 := row_newW w16 (.cells #[.int .i64 rd, .int .i64 (hd : Nat), .int .i64 (fd : Nat), .int .i64 (ld : Nat)] 106)
            have cA0 := cell_of_row (j := 0) rA17 rfl
            have cA1 := cell_of_row (j := 1) rA17 rfl
            have cA2 := cell_of_row (j := 2) rA17 rfl
            have cA3 := cell_of_row (j := 3) rA17 rfl
            have cB0 := cell_of_row (j := 0) rB17 rfl
            have cB1 := cell_of_row (j := 1) rB17 rfl
            have cB2 := cell_of_row (j := 2) rB17 rfl
            have cB3 := cell_of_row (j := 3) rB17 rfl
            have cD0 := cell_of_row (j := 0) rD17 rfl
            have cD1 := cell_of_row (j := 1) rD17 rfl
            have cD2 := cell_of_row (j := 2) rD17 rfl
            have cD3 := cell_of_row (j := 3) rD17 rfl
            clear HAD HT15 hO16 hBD2 hCD2 hdc2 hSD2 hTD2 HTD hnot rA16 rB16 gD rA17 rB17 rD17 HrA15 HrB15 HLb HZ15 hw15
            generalize hw17 : w16.alloc (.cells #[.int .i64 rd, .int .i64 (hd : Nat), .int .i64 (fd : Nat), .int .i64 (ld : Nat)] 106) = w17 at *
            have zra : (ra : Int) ≤ 12 := by omega
            have zha : (ha : Int) ≤ 12 := by omega
            have zfa : (fa : Int) ≤ 12 := by omega
            have zla : (la : Int) ≤ 12 := by omega
            have zrb : (rb : Int) ≤ 12 := by omega
            have zfb : (fb : Int) ≤ 12 := by omega
            have zlb : (lb : Int) ≤ 12 := by omega
            have zhd : (hd : Int) ≤ 12 := by omega
            have zfd : (fd : Int) ≤ 12 := by omega
            have zld : (ld : Int) ≤ 12 := by omega
            have pA : (ra : Int) + ha + fa + la = l.length := by have := HSA.out; omega
            have pB : (rb : Int) + fb + lb = l.length := by have := HSB.out; omega
            have pH : hb = 0 := HSB.out.2
            have qD : (rd + hd + fd + ld != l.length) = false := by have := HSD.out.1; simp; omega
            have hq : (l.length ≤ m ∧ rd ≤ 0 ∧ ((hd : Int) != ra + ha) = false) ∨ ¬ l.length ≤ m := by
              by_cases h : l.length ≤ m
              · have h0 := HSD.out.2.2 h
                have h1 := HSD.out.1
                have h2 := HSD.out.2.1
                exact .inl ⟨h, by omega, by simp; omega⟩
              · exact .inr h
            have HGab := hid1 (And.intro HGA.out (And.intro HGB.out HGD.out))
            clear HSA HSB HSD HGA HGB HGD
            have HWt : Hid (∀ i (hi : i < l.length), ∀ V : World, Below w17.heap.size w17 V → ∀ v, RRow V v l → Calls Tryz.prog 63 #[Ptr T, v, .string (ba l[i].out)] V fun e w' => e = .returned (.tuple #[.string (ba (Bf.want Af.actO fs l l[i].out).1), erOf es (Bf.want Af.actO fs l l[i].out).2]) ∧ Below V.heap.size V w') := hid1 fun i hi V gV v hv => by
              have hT17 := HT17.out
              have gB := below_then hT17.base gV
              refine (wOf_calls (HW.out.trans (below_then G4 gB)).w.want (HT4.out.below gB) (fun x b hb => (HFl.out _ (Bf.get_mem hb)).2) v l hv (by omega) HSm.out l[i].out (by have := (HSm.out _ (List.getElem_mem hi)).out; omega)).mono ?_
              rintro e w' ⟨s, ev, rfl, g, hO⟩
              refine ⟨?_, g⟩
              rcases hO with ⟨h1, _⟩ | ⟨_, h1, _⟩ | ⟨_, _, h1, _⟩ | ⟨_, _, _, rfl, rfl⟩
              · exact absurd HFt0.out h1
              · exact absurd rfl (h1 _ (List.getElem_mem hi))
              · have := HSt.out.some l[i].out
                rw [h1] at this
                cases this
              · rfl
            rcases hq with ⟨hmn, prd, qE⟩ | hmn
            all_goals
              go_wp2
              clear cA0 cA1 cA2 cA3 cB0 cB1 cB2 cB3 cD0 cD1 cD2 cD3 pA pB qD hw17
              go_loopw [27] (fun iv wr => ∃ k : Nat, k ≤ l.length ∧ iv = .int .i64 k ∧ Below w17.heap.size w17 wr) (fun iv _ => l.length - (intOf iv).toNat)
              case atStart => exact ⟨0, Nat.zero_le _, rfl, Below.refl _ _⟩
              case round =>
                obtain ⟨q, hq, rfl, hB17⟩ := hrel
                have q0 : (0 : Int) ≤ (q : Int) := by omega
                have hTr := HT17.out.below HBu.out HCa.out hB17
                have HTq := hid1 hTr
                have gW17 := below_then G4 hTr.base
                clear hTr
                by_cases hqlt : q < l.length
                · have q1 : (q : Int) < (l.length : Int) := by omega
                  obtain ⟨g, og, rfl, hg, hc⟩ := HLc.out (by intro e; rw [e] at hqlt; simp at hqlt)
                  have c0 := cell_below' (hc q hqlt).1 gW17
                  have HC0 := hid1 fun (V : World) (gV : Below wr.heap.size wr V) => cell_below' c0 gV
                  have HOq := hid1 fun (V : World) (gV : Below wr.heap.size wr V) => HOr.out V (below_then gW17 gV) (by omega) fun x hx => (HSm.out x hx).many
                  have HWq := hid1 fun (V : World) (gV : Below wr.heap.size wr V) (v : Value) (hv : RRow V v l) => HWt.out q hqlt V (below_then hB17 gV) v hv
                  have rA := HGab.out.1.1.result HSt.out HGab.out.1.2 hqlt
                  have rB := HGab.out.2.1.1.result HSt.out HGab.out.2.1.2 hqlt
                  have rD := HGab.out.2.2.1.result HSt.out HGab.out.2.2.2 hqlt
                  have HlA := hid1 HGab.out.1.1.hl
                  have HlB := hid1 HGab.out.2.1.1.hl
                  have HlD := hid1 HGab.out.2.2.1.hl
                  have HRA := hid1 fun (V : World) (gV : Below wr.heap.size wr V) => HBu.out.result SaA V pa (.pointer (some pc)) dA (q : Nat) (HTq.out.below HBu.out HCa.out gV).a (by rw [HlA.out]; omega) (by omega) (by omega)
                  have HRB := hid1 fun (V : World) (gV : Below wr.heap.size wr V) => HBu.out.result SbB V pb (.pointer none) dB (q : Nat) (HTq.out.below HBu.out HCa.out gV).b (by rw [HlB.out]; omega) (by omega) (by omega)
                  have HRD := hid1 fun (V : World) (gV : Below wr.heap.size wr V) => HBu.out.result SdD V pd (.pointer (some pc)) dD (q : Nat) (HTq.out.below HBu.out HCa.out gV).d (by rw [HlD.out]; omega) (by omega) (by omega)
                  have hat : ∀ d : Bf.Bd, d.l = l → d.at (q : Nat) = d.st q := fun d hd => by
                    unfold Bf.Bd.at
                    rw [hd, if_neg (by omega), Int.toNat_natCast]
                  rw [hat dA HlA.out, rA.1, rA.2] at HRA
                  rw [hat dB HlB.out, rB.1, rB.2] at HRB
                  rw [hat dD HlD.out, rD.1, rD.2] at HRD
                  clear hc rA rB rD hat HlA HlB HlD HWt HOr
                  have hwe : (Bf.want Af.actO fs l l[q].out).2 ≠ 0 → (Bf.want Af.actO fs l l[q].out).1 = [] := want_err
                  generalize Bf.want Af.actO fs l l[q].out = y at *
                  obtain ⟨yb, yc⟩ := y
                  simp only at HWq HRA HRB HRD hwe
                  generalize l[q].out = xo at *
                  have hBz17 := hB17.size
                  have hyc : (∃ ev, (erOf es yc = ev ∧ ev = .nilIface) ∧ decide (yc = 0) = true) ∨ ∃ ev, (erOf es yc = ev ∧ ∃ t u, ev = .iface t u) ∧ decide (yc = 0) = false ∧ yb = [] := by
                    cases yc with
                    | zero => exact .inl ⟨_, ⟨rfl, rfl⟩, rfl⟩
                    | succ n => exact .inr ⟨_, ⟨rfl, _, _, rfl⟩, rfl, hwe (by omega)⟩
                  clear hwe
                  rcases hyc with ⟨ev, ⟨eev, rfl⟩, edc⟩ | ⟨ev, ⟨eev, t, u, rfl⟩, edc, rfl⟩
                  all_goals
                    rw [eev] at HWq
                    rw [edc] at HRA HRB HRD
                    clear eev edc
                    go_wp2
                    go_region_held3 (fun w' => w'.cell? ⟨g, og + q * 4, none⟩ = some (.string (ba xo))) (first | go_keep | fail)
                      (first
                        | (go_at_call 41; refine (HOq.out _ (by exact (Below.refl _ wr).drew)).mono ?_; rintro e w25 ⟨v25, rfl, hr25, h25⟩; (have g25 := below_then (Below.refl wr.heap.size wr).drew h25); (have e25 := cell_below' (show wr.drew.cell? _ = _ from c0) h25))
                        | (go_at_call 63; refine (HWq.out _ g25 _ hr25).mono ?_; rintro e w26 ⟨rfl, h26⟩; (have g26 := below_then g25 h26); (have e26 := cell_below' e25 h26))
                        | fail)
                    all_goals
                      have H1 := hid1 (HRA.out w26 g26)
                      clear HOq HWq HRA hr25 h25 g25 e25 h26
                      go_wp2_with fail
                      refine H1.out.mono ?_
                      rintro e w27 ⟨rfl, g27⟩
                      have g627 := below_then g26 g27
                      have H2 := hid1 (HRB.out w27 g627)
                      clear H1 HRB g26 g27
                      go_wp2_with fail
                      refine H2.out.mono ?_
                      rintro e w28 ⟨rfl, g28⟩
                      have g628 := below_then g627 g28
                      have H3 := hid1 (HRD.out w28 g628)
                      clear H2 HRD g28
                      go_wp2_with fail
                      refine H3.out.mono ?_
                      rintro e w29 ⟨rfl, g29⟩
                      have hB29 := below_then hB17 (below_then g628 g29)
                      clear H3 g29
                      go_wp2
                      exact ⟨⟨q + 1, by omega, by go_num, hB29⟩, by simp [intOf]; omega⟩
                · have q1 : (l.length : Int) ≤ (q : Int) := by omega
                  have HVA := hid1 fun (V : World) (gV : Below wr.heap.size wr V) => HBu.out.over SaA V pa (.pointer (some pc)) dA (HTq.out.below HBu.out HCa.out gV).a (by rw [HGab.out.1.1.hl]; omega)
                  have HVB := hid1 fun (V : World) (gV : Below wr.heap.size wr V) => HBu.out.over SbB V pb (.pointer none) dB (HTq.out.below HBu.out HCa.out gV).b (by rw [HGab.out.2.1.1.hl]; omega)
                  have HVD := hid1 fun (V : World) (gV : Below wr.heap.size wr V) => HBu.out.over SdD V pd (.pointer (some pc)) dD (HTq.out.below HBu.out HCa.out gV).d (by rw [HGab.out.2.2.1.hl]; omega)
                  rw [HGab.out.1.2] at HVA
                  rw [HGab.out.2.1.2] at HVB
                  rw [HGab.out.2.2.2] at HVD
                  simp only [beq_self_eq_true] at HVA HVB HVD
                  have HV1 := hid1 (HVA.out wr (Below.refl _ _))
                  clear HVA HWt HLc HOr
                  go_wp2_with fail
                  refine HV1.out.mono ?_
                  rintro e w21 ⟨rfl, g21⟩
                  have HV2 := hid1 (HVB.out w21 g21)
                  clear HV1 HVB
                  go_wp2_with fail
                  refine HV2.out.mono ?_
                  rintro e w22 ⟨rfl, g22⟩
                  have g212 := below_then g21 g22
                  have HV3 := hid1 (HVD.out w22 g212)
                  clear HV2 HVD
                  go_wp2_with fail
                  refine HV3.out.mono ?_
                  rintro e w23 ⟨rfl, g23⟩
                  have G23 := below_then gW17 (below_then g212 g23)
                  clear HV3
                  go_wp2
                  go_ret
                  exact ⟨rfl, G23⟩
      · have HNno : Hid (∀ (n : Nat) (cv : Value) (w : World) (bv ev : Value), NewTells es BAt n fs l (l.map Ru.out) cv w bv ev → bv = .pointer none ∧ ∃ t x, ev = .iface t x) := hid1 fun n cv w bv ev h => by
          rcases h.err with ⟨h1, h2, _⟩ | ⟨h1, h2, h3, _⟩
          · exact ⟨h1, h2⟩
          · exact absurd ⟨h1, h2, h3⟩ hP
        clear hP
        go_wp2_with fail
        refine HO5.out.mono ?_
        rintro e w6 ⟨v6, rfl, hR6, g6⟩
        have HN6 := hid1 (HNew.out w6 (.pointer (some pc)) ⟨_, rfl⟩ g6 v6 hR6)
        obtain ⟨p6, c6, rfl, -⟩ := hR6
        clear HO5
        go_wp2_with fail
        refine HN6.out.mono ?_
        rintro e w7 ⟨bva, eva, rfl, g7, hN7⟩
        obtain ⟨rfl, ta, xa, rfl⟩ := HNno.out _ _ _ _ _ hN7
        have g57 := below_then g6 g7
        have HO7 := hid1 (HOr.out w7 (below_then G5r g57) (by omega) fun x hx => (HSm.out x hx).many)
        clear HN6 hN7
        go_wp2_with fail
        refine HO7.out.mono ?_
        rintro e w8 ⟨v8, rfl, hR8, g8⟩
        have g58 := below_then g57 g8
        have HN8 := hid1 (HNew.out w8 (.pointer none) ⟨_, rfl⟩ g58 v8 hR8)
        obtain ⟨p8, c8, rfl, -⟩ := hR8
        clear HO7
        go_wp2_with fail
        refine HN8.out.mono ?_
        rintro e w9 ⟨bvb, evb, rfl, g9, hN9⟩
        obtain ⟨rfl, tb, xb, rfl⟩ := HNno.out _ _ _ _ _ hN9
        have g59 := below_then g58 g9
        have HO9 := hid1 (HOr.out w9 (below_then G5r g59) (by omega) fun x hx => (HSm.out x hx).many)
        clear HN8 hN9
        go_wp2_with fail
        refine HO9.out.mono ?_
        rintro e w10 ⟨v10, rfl, hR10, g10⟩
        have g510 := below_then g59 g10
        have HN10 := hid1 (HNew.out w10 (.pointer (some pc)) ⟨_, rfl⟩ g510 v10 hR10)
        obtain ⟨p10, c10, rfl, -⟩ := hR10
        clear HO9 HNew
        go_wp2_with fail
        refine HN10.out.mono ?_
        rintro e w11 ⟨bvd, evd, rfl, g11, hN11⟩
        obtain ⟨rfl, td, xd, rfl⟩ := HNno.out _ _ _ _ _ hN11
        have G11 := below_then G5r (below_then g510 g11)
        clear HN10 hN11
        go_wp2
        go_ret
        exact ⟨rfl, G11⟩
end Go.Proofs.YtmhipgompplkdaaGreatDoor
