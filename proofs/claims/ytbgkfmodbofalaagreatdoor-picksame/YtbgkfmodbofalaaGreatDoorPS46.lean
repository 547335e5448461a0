import Derived.Test.YtbgkfmodbofalaaGreatDoorPS42
import Derived.Test.YtbgkfmodbofalaaGreatDoorPS44
import Derived.Test.YtbgkfmodbofalaaGreatDoorPS45
import Derived.Test.YtbgkfmodbofalaaGreatDoorPS41
import Derived.Test.YtbgkfmodbofalaaGreatDoorPS22
namespace Go.Proofs.YtbgkfmodbofalaaGreatDoor
open Go.RowKit Go.Shelf Go.Lib
structure Duo (BAt : (Nat → Prop) → World → Value → Value → Bf.Bd → Prop) (wB : World) (pa pb : Addr) (da db : Bf.Bd) (Sa Sb : Nat → Prop) (wr : World) : Prop where
  a : BAt Sa wr (.pointer (some pa)) (.pointer none) da
  b : BAt Sb wr (.pointer (some pb)) (.pointer none) db
  ab : ∀ j, Sa j → ¬ Sb j
  la : ∀ j, Sa j → wB.heap.size ≤ j
  lb : ∀ j, Sb j → wB.heap.size ≤ j
  base : Below wB.heap.size wB wr
theorem Duo.below {es : Nat → Addr} {act : Bf.Act} {At : (Nat → Prop) → World → Value → Nat → Cf.Ens → Prop} {BAt : (Nat → Prop) → World → Value → Value → Bf.Bd → Prop} (HB : Builds es act At BAt) {wB : World} {pa pb : Addr} {da db : Bf.Bd} {Sa Sb : Nat → Prop} {wr w' : World} (h : Duo BAt wB pa pb da db Sa Sb wr) (hb : Below wr.heap.size wr w') : Duo BAt wB pa pb da db Sa Sb w' :=
  ⟨HB.same _ _ _ _ _ _ h.a hb.size fun k hk => hb.block k (HB.lt _ _ _ _ _ h.a k hk), HB.same _ _ _ _ _ _ h.b hb.size fun k hk => hb.block k (HB.lt _ _ _ _ _ h.b k hk), h.ab, h.la, h.lb, below_then h.base hb⟩
theorem Duo.far {es : Nat → Addr} {act : Bf.Act} {At : (Nat → Prop) → World → Value → Nat → Cf.Ens → Prop} {BAt : (Nat → Prop) → World → Value → Value → Bf.Bd → Prop} (HB : Builds es act At BAt) {wB : World} {pa pb : Addr} {da db : Bf.Bd} {Sa Sb : Nat → Prop} {wr w' : World} (h : Duo BAt wB pa pb da db Sa Sb wr) (hz : wr.heap.size ≤ w'.heap.size) (hs : ∀ k, Sa k ∨ Sb k → w'.heap[k]? = wr.heap[k]?) (hb : Below wB.heap.size wB w') : Duo BAt wB pa pb da db Sa Sb w' :=
  ⟨HB.same _ _ _ _ _ _ h.a hz fun k hk => hs k (.inl hk), HB.same _ _ _ _ _ _ h.b hz fun k hk => hs k (.inr hk), h.ab, h.la, h.lb, hb⟩
theorem Duo.ranA {es : Nat → Addr} {act : Bf.Act} {At : (Nat → Prop) → World → Value → Nat → Cf.Ens → Prop} {BAt : (Nat → Prop) → World → Value → Value → Bf.Bd → Prop} (HB : Builds es act At BAt) {wB : World} {pa pb : Addr} {da da' db : Bf.Bd} {Sa Sb Sa' : Nat → Prop} {wr w' : World} (h : Duo BAt wB pa pb da db Sa Sb wr) (hO : Only Sa wr w') (ha : BAt Sa' w' (.pointer (some pa)) (.pointer none) da') (hS : ∀ j, Sa' j → Sa j ∨ wr.heap.size ≤ j) : Duo BAt wB pa pb da' db Sa' Sb w' := by
  have hbl := HB.lt _ _ _ _ _ h.b
  have hz := h.base.size
  refine ⟨ha, HB.same _ _ _ _ _ _ h.b hO.size fun k hk => hO.block k (hbl k hk) fun e => h.ab k e hk, fun j h1 h2 => ?_, fun j hj => ?_, h.lb, h.base.trans (hO.below (fun j hj => h.la j hj) hz)⟩
  · rcases hS j h1 with h3 | h3
    · exact h.ab j h3 h2
    · have := hbl j h2
      omega
  · rcases hS j hj with h3 | h3
    · exact h.la j h3
    · omega
theorem Duo.swap {BAt : (Nat → Prop) → World → Value → Value → Bf.Bd → Prop} {wB : World} {pa pb : Addr} {da db : Bf.Bd} {Sa Sb : Nat → Prop} {wr : World} (h : Duo BAt wB pa pb da db Sa Sb wr) : Duo BAt wB pb pa db da Sb Sa wr := ⟨h.b, h.a, fun j h1 h2 => h.ab j h2 h1, h.lb, h.la, h.base⟩
set_option maxRecDepth 100000 in
set_option maxHeartbeats 64000000 in
theorem PickSame_calls {es : Nat → Addr} {At : (Nat → Prop) → World → Value → Nat → Cf.Ens → Prop} {BAt : (Nat → Prop) → World → Value → Value → Bf.Bd → Prop} (HB : Builds es Af.actO At BAt) {W : World} (hW : BuildW W es) (hE : TErr W (erOf es)) (vf : Value) (fl : Tf.Fs) (hF : FIRow W vf fl) (vl : Value) (l : List Ru) (hR : RRow W vl l) (v1 : Value) (ps : List Int) (hZ1 : ZRow W v1 ps) (hps : ∀ x ∈ ps, -9223372036854775808 ≤ x ∧ x ≤ 9223372036854775807) (v2 : Value) (qs : List Int) (hZ2 : ZRow W v2 qs) (hqs : ∀ x ∈ qs, -9223372036854775808 ≤ x ∧ x ≤ 9223372036854775807) :
    Calls Tryz.prog 13 #[vf, vl, v1, v2] W fun e w' => e = .returned (.bool true) ∧ Below W.heap.size W w' := by
  have HBu := hid1 HB
  have HW := hid1 (BuildB.of hW)
  have HPi := hid1 (picked_calls HB hW)
  have HLf := hid1 fun V (g : Below W.heap.size W V) => longFiles3_calls (w := V) vf fl (hF.below g)
  have HLr := hid1 fun V (g : Below W.heap.size W V) => LongRules_any (w := V) vl l 12 (by omega) (hR.below g)
  have HFt := hid1 fun V (g : Below W.heap.size W V) (hs : ShortF fl) => fileTree3_calls (w := V) (hE.below g) vf fl (hF.below g) hs
  have HOr := hid1 fun V (g : Below W.heap.size W V) (hl : l.length ≤ 1000) (h12 : ∀ x ∈ l, x.ins.length ≤ 12) => OwnRules_calls (w := V) vl l hl (hR.below g) h12
  have HP1 := hid1 (And.intro hZ1 hps)
  have HP2 := hid1 (And.intro hZ2 hqs)
  obtain ⟨pf, cf, rfl, -⟩ := hF
  obtain ⟨q1, k1, rfl, -⟩ := hZ1
  obtain ⟨q2, k2, rfl, -⟩ := hZ2
  obtain ⟨pl, cl, rfl, hcl, hnl, hlc⟩ := hR
  have HLc := hid1 hlc
  obtain ⟨iS, hiS, hS0, hS1, hS2⟩ := info_parts Tryz.infoStr
  obtain ⟨iI, hI, hI0, hI1, hI2⟩ := info_parts Tryz.infoInt
  clear HB hW hE hps hqs hlc hcl hnl
  go_enter Tryz.func13, Tryz.ntmps13
  go_wp2_with fail
  refine HPi.out.mono ?_
  rintro e w1 ⟨rfl, g1⟩
  have HL1 := hid1 (HLf.out w1 g1)
  clear HPi HLf
  go_wp2_with fail
  refine HL1.out.mono ?_
  rintro e w2 ⟨b, rfl, rfl, hb⟩
  clear HL1
  cases b with
  | true =>
    clear hb HFt HOr HLr
    go_wp2
    go_ret
    exact ⟨rfl, g1⟩
  | false =>
  have hs := hb.resolve_left (by simp)
  have HL2 := hid1 (HLr.out w2 g1)
  clear HLr hb
  go_wp2_with fail
  refine HL2.out.mono ?_
  rintro e w3 ⟨r, rfl, rfl, hr⟩
  clear HL2
  rcases hr with rfl | ⟨rfl, hlen, hsm⟩
  · clear HFt HOr
    go_wp2
    go_ret
    exact ⟨rfl, g1⟩
  by_cases hp60 : 60 < ps.length
  · have z60 : (60 : Int) < (ps.length : Int) := by omega
    clear HFt HOr
    go_wp2
    go_ret
    exact ⟨rfl, g1⟩
  have zp60 : (ps.length : Int) ≤ 60 := by omega
  by_cases hq60 : 60 < qs.length
  · have z60 : (60 : Int) < (qs.length : Int) := by omega
    clear HFt HOr
    go_wp2
    go_ret
    exact ⟨rfl, g1⟩
  have zq60 : (qs.length : Int) ≤ 60 := by omega
  have HF3 := hid1 (HFt.out w3 g1 hs)
  have HSm := hid1 hsm
  have HSh := hid1 hs
  have hl41 : l.length ≤ 41 := by omega
  have zl : (l.length : Int) ≤ 41 := by omega
  have HLen := hid1 hlen
  clear HFt hs hsm hlen
  go_wp2_with fail
  refine HF3.out.mono ?_
  rintro e w5 ⟨T, M, oT, uT, rfl, hBo, g5⟩
  have G5 := below_then g1 g5
  have HT5 := hid1 hBo.t
  have HWl := hid1 hBo.well
  have HFl : Hid (∀ f ∈ Tf.taken fl, f.1.length ≤ 1000 ∧ f.2.length ≤ 2000) := hid1 fun f hf => ⟨by have := HSh.out.path f (Tf.taken_mem _ f hf); omega, (hBo.well.each f hf).2⟩
  have hz5 := G5.size
  clear HF3 hBo g5 g1 HSh
  generalize Tf.taken fl = fs at *
  go_wp2
  go_loopw [12, 13] (fun ov iv wr => ∃ k : Nat, k ≤ l.length ∧ iv = .int .i64 k ∧ wr.ownsRow w5.heap.size 9 1 ov k ((l.take k).map fun r => sv r.out) ∧ Below w5.heap.size w5 wr) (fun _ iv _ => l.length - (intOf iv).toNat)
  case atStart => exact ⟨0, Nat.zero_le _, rfl, World.ownsRow_nil _ _ _ _, Below.refl _ _⟩
  case round =>
    obtain ⟨k, hk, rfl, hrow, hB⟩ := hrel
    have k0 : (0 : Int) ≤ (k : Int) := by omega
    by_cases hlt : k < l.length
    · have k1' : (k : Int) < (l.length : Int) := by omega
      obtain ⟨g, og, rfl, hg, hc⟩ := HLc.out (by intro e; rw [e] at hlt; simp at hlt)
      obtain ⟨b0, -⟩ := hc k hlt
      have c0 := cell_below' (cell_below' b0 G5) hB
      have HTk : Hid ((l.take (k + 1)).map (fun r => sv r.out) = (l.take k).map (fun r => sv r.out) ++ [sv l[k].out]) := hid1 (by
        rw [List.take_succ_eq_append_getElem hlt, List.map_append]
        rfl)
      have hml : k + 1 ≤ maxLen := by unfold maxLen; omega
      have hbz := hB.size
      clear hc b0 HLc HOr
      generalize l[k] = y at *
      go_wp2_with (first
        | (at_builtin; refine wpList_append_own _ rfl _ _ 45 rfl w5.heap.size 9 iS (.string ⟨#[]⟩) 1 16 Tryz.underlying45 hiS hS0 hS1 hS2 rfl (by decide) _ _ _ rfl (hrow.alloc _) ⟨wr.heap.size, 0, none⟩ 1 1 [sv y.out] rfl rfl (one_new _ _ _ _ (by simp)) (by simp [Value.oneCell']) hml (by omega) (by simp; omega) ?_; intro v' w5' hown' hgrow _)
        | fail)
      exact ⟨⟨k + 1, by omega, by go_num, by rw [HTk.out]; exact hown', below_appended hB hbz hrow hgrow⟩, by simp [intOf]; omega⟩
    · have k1' : (l.length : Int) ≤ (k : Int) := by omega
      obtain rfl : k = l.length := by omega
      have hX : XRow wr u12 (l.map Ru.out) := XRow.of_owns (n := l.length) (by
        have := hrow
        rw [List.take_length] at this
        rw [List.map_map]
        exact this)
      have HX := hid1 hX
      have G5r := below_then G5 hB
      have HO5 := hid1 (HOr.out wr G5r (by omega) fun x hx => (HSm.out x hx).many)
      have HNew := hid1 fun (V : World) (cv : Value) (hcv : ∃ q, cv = .pointer q) (g : Below wr.heap.size wr V) (v : Value) (hv : RRow V v l) => HBu.out.new V _ T fs oT v l _ (l.map Ru.out) cv (HW.out.below (below_then G5r g)).w (HT5.out.below (below_then hB g)) HWl.out.rises (by have := HWl.out.few; omega) HFl.out hv (by omega) HSm.out (HX.out.below g) (by simp; omega) (fun x hx => by obtain ⟨r, hr, rfl⟩ := List.mem_map.1 hx; have := (HSm.out r hr).out; omega) hcv
      have hz55 := hB.size
      obtain ⟨po, co, rfl⟩ := own_val hrow
      generalize wr = w55 at *
      clear hX hrow HX HLc hB
      by_cases hP : (Ru.fault l).1 = 0 ∧ (∀ j (hj : j < (l.map Ru.out).length), ∃ x ∈ l, x.out = (l.map Ru.out)[j]) ∧ (Ru.order l (Bf.need l (l.map Ru.out))).isSome = true
      · obtain ⟨ord, hord⟩ := Option.isSome_iff_exists.1 hP.2.2
        have hSh : Bf.Sheet fs l ord := ⟨hP.1, hord⟩
        have HSt := hid1 hSh
        have HFt0 := hid1 hP.1
        have hl12 : l.length ≤ 12 := by have := HLen.out; have := (Ru.fault_ok hP.1).1; omega
        have zl12 : (l.length : Int) ≤ 12 := by omega
        have HNok : Hid (∀ (n : Nat) (cv : Value) (w : World) (bv ev : Value), NewTells es BAt n fs l (l.map Ru.out) cv w bv ev → ev = .nilIface ∧ ∃ p S, bv = .pointer (some p) ∧ BAt S w bv cv (Bf.init fs l (l.map Ru.out)) ∧ ∀ k, S k → n ≤ k) := hid1 fun n cv w bv ev h => by
          rcases h.err with ⟨_, _, h1⟩ | ⟨_, _, _, h4, h5⟩
          · exact absurd hP h1
          · exact ⟨h4, h5⟩
        have HPk1 := hid1 (Bf.pickRun_ok hSh (fun f hf => (HFl.out f hf).2) ps)
        have HPk2 := hid1 (Bf.pickRun_ok hSh (fun f hf => (HFl.out f hf).2) qs)
        have HI0 : Hid (Bf.Fit (Bf.init fs l (l.map Ru.out))) := hid1 (Bf.Going.init hSh (fun f hf => (HFl.out f hf).2) trivial trivial : Bf.Going fs l ord _ none).fit
        clear hP hord hSh
        go_wp2_with fail
        refine HO5.out.mono ?_
        rintro e w6 ⟨v6, rfl, hR6, g6⟩
        have HN6 := hid1 (HNew.out w6 (.pointer none) ⟨_, rfl⟩ g6 v6 hR6)
        obtain ⟨p6, c6, rfl, -⟩ := hR6
        clear HO5
        go_wp2_with fail
        refine HN6.out.mono ?_
        rintro e w7 ⟨bva, eva, rfl, g7, hN7⟩
        obtain ⟨rfl, pa, Sa, rfl, hBa, hSa⟩ := HNok.out _ _ _ _ _ hN7
        have g57 := below_then g6 g7
        have HO7 := hid1 (HOr.out w7 (below_then G5r g57) (by omega) fun x hx => (HSm.out x hx).many)
        have HBa := hid1 (And.intro hBa hSa)
        have hz6 := g6.size
        have hz7 := g7.size
        clear HN6 hN7 hBa hSa
        go_wp2_with fail
        refine HO7.out.mono ?_
        rintro e w8 ⟨v8, rfl, hR8, g8⟩
        have g58 := below_then g57 g8
        have HN8 := hid1 (HNew.out w8 (.pointer none) ⟨_, rfl⟩ g58 v8 hR8)
        obtain ⟨p8, c8, rfl, -⟩ := hR8
        clear HO7
        go_wp2_with fail
        refine HN8.out.mono ?_
        rintro e w9 ⟨bvb, evb, rfl, g9, hN9⟩
        obtain ⟨rfl, pb, Sb, rfl, hBb, hSb⟩ := HNok.out _ _ _ _ _ hN9
        have g59 := below_then g58 g9
        have hz8 := g8.size
        have hz9 := g9.size
        have HDu : Hid (Duo BAt w55 pa pb (Bf.init fs l (l.map Ru.out)) (Bf.init fs l (l.map Ru.out)) Sa Sb w9) := hid1 (by
          have a1 := HBu.out.lt _ _ _ _ _ HBa.out.1
          have ga := below_then g8 g9
          refine ⟨HBu.out.same _ _ _ _ _ _ HBa.out.1 ga.size fun k hk => ga.block k (a1 k hk), hBb, fun j h1 h2 => ?_, fun j hj => ?_, fun j hj => ?_, g59⟩
          · have := a1 j h1; have := hSb j h2; omega
          · have := HBa.out.2 j hj; omega
          · have := hSb j hj; omega)
        have hz555 := G5r.size
        have HR1 := hid1 (pRun_calls HBu.out actFit (B := W.heap.size) HDu.out.a (HW.out.trans (below_then G5r g59)) (fun j hj => Nat.le_trans hz555 (HDu.out.la j hj)) HFt0.out HSm.out HI0.out _ ps (HP1.out.1.below (below_then G5r g59)) HP1.out.2 (by omega) (fun hne g o n c e hS => by
          have h1 := HP1.out.1.old hne e
          have h2 := HDu.out.la g hS
          omega))
        clear HN8 hN9 hBb hSb HBa HNok HNew g6 g7 g8 g9 g57 g58 HOr
        go_wp2_with fail
        refine HR1.out.mono ?_
        rintro e w10 ⟨x1, rfl, Sa1, hBa1, hSa1, hO1, hrow1, -⟩
        have HDu1 := hid1 (HDu.out.ranA HBu.out hO1 hBa1 hSa1)
        have G10 := below_then G5r HDu1.out.base
        have HR2 := hid1 (pRun_calls HBu.out actFit (B := W.heap.size) HDu1.out.b (HW.out.trans G10) (fun j hj => Nat.le_trans hz555 (HDu1.out.lb j hj)) HFt0.out HSm.out HI0.out _ qs (HP2.out.1.below G10) HP2.out.2 (by omega) (fun hne g o n c e hS => by
          have h1 := HP2.out.1.old hne e
          have h2 := HDu1.out.lb g hS
          omega))
        have HXf : Hid (∀ j, some j = x1.ownBlock → ¬ Sb j) := hid1 fun j hj hS => by
          have h1 := (hrow1.lt j hj.symm).1
          have h2 := HBu.out.lt _ _ _ _ _ HDu.out.b j hS
          omega
        obtain ⟨px, cx, hx1⟩ := own_slice hrow1
        subst hx1
        have hz10 := hO1.size
        have Hrow1 := hid1 hrow1
        clear HR1 hO1 hBa1 hSa1 HDu hrow1
        go_wp2_with fail
        refine HR2.out.mono ?_
        rintro e w11 ⟨x2, rfl, Sb2, hBb2, hSb2, hO2, hrow2, -⟩
        have HDu2 := hid1 (HDu1.out.swap.ranA HBu.out hO2 hBb2 hSb2).swap
        have hz11 := hO2.size
        have hrow1 := ownsRow_keep Hrow1.out hO2 HXf.out
        obtain ⟨py, cy, hx2⟩ := own_slice hrow2
        subst hx2
        have hRx := (NRow.of_owns hrow1).ni
        have hRy := (NRow.of_owns hrow2).ni
        obtain ⟨hk1, hw1⟩ := HPk1.out
        obtain ⟨hk2, hw2⟩ := HPk2.out
        have hsame := hk1.same HSt.out hw1 hk2 hw2
        have hd1 := hk1.going.hl
        have hd2 := hk2.going.hl
        have hxl := hk1.ran.lt
        have hyl := hk2.ran.lt
        rw [hd1] at hxl
        rw [hd2] at hyl
        have HTw := hid1 (Bf.twice_all hsame.1 hk1.ran.once hk2.ran.once hsame.2.1)
        have hx12 : (Bf.pickRun Af.actO none (Bf.init fs l (l.map Ru.out)) ps).xs.length ≤ l.length := by
          have := Cf.nodup_len (b := List.range l.length) hk1.ran.once fun i hi => List.mem_range.2 (hxl i hi)
          simpa using this
        have G11 := below_then G5r HDu2.out.base
        have HC1 := hid1 fun V (gV : Below w11.heap.size w11 V) => HBu.out.count _ _ _ _ _ (HDu2.out.below HBu.out gV).a (by rw [hd1]; omega)
        have HC2 := hid1 fun V (gV : Below w11.heap.size w11 V) => HBu.out.count _ _ _ _ _ (HDu2.out.below HBu.out gV).b (by rw [hd2]; omega)
        clear HPk1 HPk2 hk1 hk2 hw1 hw2 HR2 hO2 hBb2 hSb2 HDu1 Hrow1 hrow1 hrow2 HXf
        generalize Bf.pickRun Af.actO none (Bf.init fs l (l.map Ru.out)) ps = P at *
        generalize Bf.pickRun Af.actO none (Bf.init fs l (l.map Ru.out)) qs = Q at *
        obtain ⟨dA, cA, xs⟩ := P
        obtain ⟨dB, cB, ys⟩ := Q
        simp only at *
        obtain ⟨hlxy, -, ⟨e1, e2, e3, e4⟩, hEq⟩ := hsame
        have HEq := hid1 hEq
        have HXl := hid1 hxl
        have HYl := hid1 hyl
        have HAt : Hid (∀ k : Nat, k < l.length → dA.at (k : Int) = dA.st k ∧ dB.at (k : Int) = dB.st k) := hid1 fun k hk => ⟨by
          unfold Bf.Bd.at
          rw [hd1, if_neg (by omega)]
          simp, by
          unfold Bf.Bd.at
          rw [hd2, if_neg (by omega)]
          simp⟩
        rw [← e1, ← e2, ← e3, ← e4] at HC2
        have HD1 := hid1 hd1
        have HD2 := hid1 hd2
        have hx12' : xs.length ≤ 12 := by omega
        have zx12 : (xs.length : Int) ≤ 12 := by omega
        clear hEq hxl hyl e1 e2 e3 e4 hd1 hd2
        generalize hyn : ys.length = ny at *
        subst hlxy
        have HYn := hid1 hyn
        have HRx := hid1 hRx
        have HRy := hid1 hRy
        clear hyn hRx hRy
        have HK1 := hid1 (HC1.out w11 (Below.refl _ _))
        generalize dA.ran = nr at *
        generalize dA.hits = nh at *
        generalize dA.fails = nf at *
        generalize dA.lefts = nl at *
        have hbI : iI.bytes * l.length ≤ 281474976710656 := by rw [hI2]; omega
        have hml : l.length ≤ maxLen := by unfold maxLen; omega
        clear HC1
        go_wp2_with fail
        refine HK1.out.mono ?_
        rintro e w12 ⟨rfl, g12⟩
        have HK2 := hid1 (HC2.out w12 g12)
        clear HK1 HC2
        go_wp2_with fail
        refine HK2.out.mono ?_
        rintro e w13 ⟨rfl, g13⟩
        have g113 := below_then g12 g13
        have hz13 := g113.size
        clear HK2 g12 g13
        go_wp2_with (at_make; refine wpList_make_full _ rfl _ _ 68 rfl w13.heap.size 3 iI (.int .i64 0) 1 Tryz.underlying68 hI hI0 hI1 .i64 .i64 _ _ l.length rfl rfl (by omega) (by omega) hbI hml (Nat.le_refl _) ?_; intro w14 hown hgrow; (have N0 := madeN hown); (have B14 : Below w13.heap.size w13 w14 := below_grown (Below.refl _ w13) (Nat.le_refl _) hgrow); clear hown hgrow)
        have HN0 := hid1 (And.intro (N0.congr fun j _ => (Bf.twice_zero xs ys j).symm) B14)
        clear N0 B14
        go_loopw [21] (fun iv wr => ∃ i : Nat, i ≤ xs.length ∧ iv = .int .i64 i ∧ OwnN wr w13.heap.size w13.heap.size l.length (Bf.twice xs ys i) ∧ Below w13.heap.size w13 wr) (fun iv _ => xs.length - (intOf iv).toNat)
        case atStart => exact ⟨0, Nat.zero_le _, rfl, HN0.out.1, HN0.out.2⟩
        case round =>
          clear HN0
          obtain ⟨i, hi, rfl, hN, hB⟩ := hrel
          have i0 : (0 : Int) ≤ (i : Int) := by omega
          have HN := hid1 hN
          have g11r := below_then g113 hB
          by_cases hil : i < xs.length
          · have i1 : (i : Int) < (xs.length : Int) := by omega
            have hil2 : i < ys.length := by rw [HYn.out]; exact hil
            obtain ⟨gx, ox, rfl, hgx, hcx⟩ := NIRow.at HRx.out (List.ne_nil_of_length_pos (by omega))
            obtain ⟨gy, oy, rfl, hgy, hcy⟩ := NIRow.at HRy.out (List.ne_nil_of_length_pos (by omega))
            have x0 := cell_below' (hcx i hil) g11r
            have y0 := cell_below' (hcy i hil2) g11r
            have ha := HXl.out _ (List.getElem_mem hil)
            have hb := HYl.out _ (List.getElem_mem hil2)
            have HTs := hid1 fun k => Bf.twice_succ hil hil2 k
            have hgne : gx ≠ w13.heap.size := by omega
            have hgne2 : gy ≠ w13.heap.size := by omega
            clear hcx hcy hN
            generalize xs[i] = a at *
            generalize ys[i] = b at *
            have a0 : (0 : Int) ≤ (a : Int) := by omega
            have a1 : (a : Int) < (l.length : Int) := by omega
            have b0 : (0 : Int) ≤ (b : Int) := by omega
            have b1 : (b : Int) < (l.length : Int) := by omega
            have r0 := HN.out.cell ha
            have r1 := HN.out.cell hb
            have f0 := World.ownsRow.frozenAt HN.out a
            have f1 := World.ownsRow.frozenAt HN.out b
            have hf2 := Bf.twice_le xs ys i a
            have hf3 := Bf.twice_le xs ys i b
            have HSt2 : Hid (∀ V1 V2 : Nat, V1 = Bf.twice xs ys i a + 1 → V2 = (if b = a then V1 else Bf.twice xs ys i b) + 1 → OwnN ((wr.setCell ⟨w13.heap.size, a, none⟩ (nv V1)).setCell ⟨w13.heap.size, b, none⟩ (nv V2)) w13.heap.size w13.heap.size l.length (Bf.twice xs ys (i + 1)) ∧ Below w13.heap.size w13 ((wr.setCell ⟨w13.heap.size, a, none⟩ (nv V1)).setCell ⟨w13.heap.size, b, none⟩ (nv V2))) := hid1 fun V1 V2 h1 h2 => by
              refine ⟨?_, (hB.setCell (p := ⟨w13.heap.size, a, none⟩) (Nat.le_refl _) _).setCell (p := ⟨w13.heap.size, b, none⟩) (Nat.le_refl _) _⟩
              refine (HN.out.set a V1 (f' := fun j => if j = a then V1 else Bf.twice xs ys i j) fun j _ => rfl).set b V2 fun j _ => ?_
              rw [HTs.out]
              subst h1 h2
              by_cases e1 : j = b
              · subst e1
                by_cases e2 : j = a
                · subst e2; simp
                · simp [e2]
              · by_cases e2 : j = a
                · subst e2; simp [e1]
                · simp [e1, e2]
            have hzr : w13.heap.size < wr.heap.size := HN.out.lt.1
            clear HTs HXl HYl HRx HRy
            generalize hta : Bf.twice xs ys i a = ta at *
            by_cases hab : b = a
            · subst hab
              rw [hta] at hf3 r1
              have zt : (ta : Int) ≤ 24 := by omega
              have HQ := hid1 (HSt2.out (ta + 1) (ta + 1 + 1) rfl (by rw [if_pos rfl]))
              clear HSt2 hta
              have e1 : (nv (ta + 1) : Value) = .int .i64 ((ta : Int) + 1) := by simp
              have e2 : (nv (ta + 1 + 1) : Value) = .int .i64 ((ta : Int) + 1 + 1) := by simp
              rw [e1, e2] at HQ
              go_wp2
              exact ⟨⟨i + 1, by omega, by go_num, HQ.out.1, HQ.out.2⟩, by simp [intOf]; omega⟩
            · generalize htb : Bf.twice xs ys i b = tb at *
              have zt : (ta : Int) ≤ 24 := by omega
              have zt2 : (tb : Int) ≤ 24 := by omega
              have hab' : ¬ a = b := fun e => hab e.symm
              have HQ := hid1 (HSt2.out (ta + 1) (tb + 1) rfl (by rw [if_neg hab]))
              clear HSt2 hta htb
              have e1 : (nv (ta + 1) : Value) = .int .i64 ((ta : Int) + 1) := by simp
              have e2 : (nv (tb + 1) : Value) = .int .i64 ((tb : Int) + 1) := by simp
              rw [e1, e2] at HQ
              go_wp2
              exact ⟨⟨i + 1, by omega, by go_num, HQ.out.1, HQ.out.2⟩, by simp [intOf]; omega⟩
          · have i1 : (xs.length : Int) ≤ (i : Int) := by omega
            obtain rfl : i = xs.length := by omega
            have HDuR := hid1 (HDu2.out.below HBu.out g11r)
            have G16 := below_then G11 g11r
            have HN16 := hid1 hN
            clear hN HN HXl HYl HRx HRy HDu2 hB g11r
            generalize wr = w16 at *
            go_wp2
            go_loopw [22] (fun iv wr => ∃ i : Nat, i ≤ l.length ∧ iv = .int .i64 i ∧ Below w16.heap.size w16 wr) (fun iv _ => l.length - (intOf iv).toNat)
            case atStart => exact ⟨0, Nat.zero_le _, rfl, Below.refl _ _⟩
            case round =>
              obtain ⟨i, hi, rfl, hB⟩ := hrel
              have j0 : (0 : Int) ≤ (i : Int) := by omega
              by_cases hil : i < l.length
              · have j1 : (i : Int) < (l.length : Int) := by omega
                obtain ⟨q1', q2', q3'⟩ := HEq.out i hil
                obtain ⟨a1, a2⟩ := HAt.out i hil
                have HVa := hid1 fun V (gV : Below wr.heap.size wr V) => HBu.out.result _ _ _ _ _ (i : Int) (HDuR.out.below HBu.out (below_then hB gV)).a (by rw [HD1.out]; omega) (by omega) (by omega)
                have HVb := hid1 fun V (gV : Below wr.heap.size wr V) => HBu.out.result _ _ _ _ _ (i : Int) (HDuR.out.below HBu.out (below_then hB gV)).b (by rw [HD2.out]; omega) (by omega) (by omega)
                have HSa := hid1 fun V (gV : Below wr.heap.size wr V) => HBu.out.state _ _ _ _ _ (i : Int) (HDuR.out.below HBu.out (below_then hB gV)).a (by rw [HD1.out]; omega) (by omega) (by omega)
                have HSb := hid1 fun V (gV : Below wr.heap.size wr V) => HBu.out.state _ _ _ _ _ (i : Int) (HDuR.out.below HBu.out (below_then hB gV)).b (by rw [HD2.out]; omega) (by omega) (by omega)
                rw [a1] at HVa HSa
                rw [a2] at HVb HSb
                rw [← q1', ← q2'] at HVb
                rw [← q3'] at HSb
                have htw := HTw.out i
                have HCl := hid1 fun V (gV : Below wr.heap.size wr V) => (HN16.out.below (below_then hB gV)).cell hil
                generalize (dA.st i).out = so at *
                generalize (dA.st i).isDone = sd at *
                generalize (dA.st i).name = sn at *
                generalize Bf.twice xs ys xs.length i = tw at *
                have HV1 := hid1 (HVa.out wr (Below.refl _ _))
                clear HVa q1' q2' q3' a1 a2
                go_wp2_with fail
                refine HV1.out.mono ?_
                rintro e w17 ⟨rfl, g17⟩
                have HV2 := hid1 (HVb.out w17 g17)
                clear HV1 HVb
                go_wp2_with fail
                refine HV2.out.mono ?_
                rintro e w18 ⟨rfl, g18⟩
                have g178 := below_then g17 g18
                have HV3 := hid1 (HSa.out w18 g178)
                clear HV2 HSa
                cases sd <;>
                · go_wp2_with fail
                  refine HV3.out.mono ?_
                  rintro e w19 ⟨rfl, g19⟩
                  have g179 := below_then g178 g19
                  have HV4 := hid1 (HSb.out w19 g179)
                  clear HV3 HSb
                  go_wp2_with fail
                  refine HV4.out.mono ?_
                  rintro e w20 ⟨rfl, g20⟩
                  have g170 := below_then g179 g20
                  have c0 := HCl.out w20 g170
                  have hB20 := below_then hB g170
                  clear HV4 HCl
                  rcases htw with rfl | rfl
                  · go_wp2
                    exact ⟨⟨i + 1, by omega, by go_num, hB20⟩, by simp [intOf]; omega⟩
                  · go_wp2
                    exact ⟨⟨i + 1, by omega, by go_num, hB20⟩, by simp [intOf]; omega⟩
              · have j1 : (l.length : Int) ≤ (i : Int) := by omega
                have G17 := below_then G16 hB
                go_wp2
                go_ret
                exact ⟨rfl, G17⟩
      · have HNno : Hid (∀ (n : Nat) (cv : Value) (w : World) (bv ev : Value), NewTells es BAt n fs l (l.map Ru.out) cv w bv ev → bv = .pointer none ∧ ∃ t x, ev = .iface t x) := hid1 fun n cv w bv ev h => by
          rcases h.err with ⟨h1, h2, _⟩ | ⟨h1, h2, h3, _⟩
          · exact ⟨h1, h2⟩
          · exact absurd ⟨h1, h2, h3⟩ hP
        clear hP
        go_wp2_with fail
        refine HO5.out.mono ?_
        rintro e w6 ⟨v6, rfl, hR6, g6⟩
        have HN6 := hid1 (HNew.out w6 (.pointer none) ⟨_, rfl⟩ g6 v6 hR6)
        obtain ⟨p6, c6, rfl, -⟩ := hR6
        clear HO5
        go_wp2_with fail
        refine HN6.out.mono ?_
        rintro e w7 ⟨bva, eva, rfl, g7, hN7⟩
        obtain ⟨rfl, ta, xa, rfl⟩ := HNno.out _ _ _ _ _ hN7
        have g57 := below_then g6 g7
        have HO7 := hid1 (HOr.out w7 (below_then G5r g57) (by omega) fun x hx => (HSm.out x hx).many)
        clear HN6 hN7
        go_wp2_with fail
        refine HO7.out.mono ?_
        rintro e w8 ⟨v8, rfl, hR8, g8⟩
        have g58 := below_then g57 g8
        have HN8 := hid1 (HNew.out w8 (.pointer none) ⟨_, rfl⟩ g58 v8 hR8)
        obtain ⟨p8, c8, rfl, -⟩ := hR8
        clear HO7
        go_wp2_with fail
        refine HN8.out.mono ?_
        rintro e w9 ⟨bvb, evb, rfl, g9, hN9⟩
        obtain ⟨rfl, tb, xb, rfl⟩ := HNno.out _ _ _ _ _ hN9
        have G9 := below_then G5r (below_then g58 g9)
        clear HN8 hN9
        go_wp2
        go_ret
        exact ⟨rfl, G9⟩
end Go.Proofs.YtbgkfmodbofalaaGreatDoor
