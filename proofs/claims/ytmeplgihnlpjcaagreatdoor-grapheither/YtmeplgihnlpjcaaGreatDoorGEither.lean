/- The law GraphEither: the walk, over what package graph's functions tell. -/
import Derived.Test.YtmeplgihnlpjcaaGreatDoorMG16
import Derived.Test.YtmeplgihnlpjcaaGreatDoorRuleO
namespace Go.Proofs.YtmeplgihnlpjcaaGreatDoor
open Go.RowKit Go.Shelf Go.Lib

theorem cyc_none {l : List Ru} {c o : List Nat} (hc : Ru.IsCycle l c) (ho : Ru.order l allB1 = some o) : c = [] := by
  refine Classical.byContradiction fun hne => ?_
  have hp : 0 < c.length := List.length_pos_iff.2 hne
  have hd := (hc.first hp).2
  obtain ⟨t, ht⟩ : ∃ t, c.length = t + 1 := ⟨c.length - 1, by omega⟩
  have hw := hd.2.1
  rw [ht] at hw
  obtain ⟨h1, h2⟩ := Ru.order_some ho
  exact h1.none _ t (h2 _ hw.lt.1 rfl) hw
theorem cyc_some {l : List Ru} {c : List Nat} (hc : Ru.IsCycle l c) (ho : Ru.order l allB1 = none) : 0 < c.length := by
  obtain ⟨i, t, hw⟩ := Ru.order_none (fun _ => rfl) ho
  refine List.length_pos_iff.2 fun e => hc.none e i t hw

set_option maxRecDepth 100000 in
set_option maxHeartbeats 16000000 in
theorem GraphEither_calls {w : World} {es : Nat → Addr} (hW : GraphW w es) (HG : Graphs es) (v : Value) (l : List Ru) (hrow : RRow w v l) :
    Calls Tryz.prog 3 #[v] w fun e w' => e = .returned (.bool true) ∧ Below w.heap.size w w' := by
  have HA := hid1 (ahead_calls hW HG)
  have HL := hid1 fun W (g : Below w.heap.size w W) => LongRules_any v l 30 (by omega) (hrow.below g)
  have HO := hid1 fun W (g : Below w.heap.size w W) (hl : l.length ≤ 1000) (hS : ∀ x ∈ l, x.Small) => OwnRules_calls v l hl (hrow.below g) fun x hx => (hS x hx).many
  have HCy := hid1 fun W (g : Below w.heap.size w W) u (hu : RRow W u l) (hl : l.length ≤ 1000) (hS : ∀ x ∈ l, x.Small) => HG.cycle W u l (hW.s.below g) hu hl hS
  have HOr := hid1 fun W (g : Below w.heap.size w W) u (hu : RRow W u l) (hl : l.length ≤ 1000) (hS : ∀ x ∈ l, x.Small) => HG.order W u l (hW.below g) hu hl hS
  have HN := hid1 fun W (g : Below w.heap.size w W) (hS : ∀ x ∈ l, x.Small) i k (hi : i < l.length) (hk : k < l.length) => NeedsRule_calls v l (hrow.below g) (fun x hx => Nat.le_trans (hS x hx).many (by omega)) i k hi hk
  obtain ⟨i0, hi, hz0, hz1, hz2⟩ := info_parts Tryz.infoBool
  obtain ⟨p, cap, rfl, -⟩ := hrow
  clear hW HG
  go_enter Tryz.func3, Tryz.ntmps3
  go_wp2_with fail
  refine HA.out.mono ?_
  rintro e w1 ⟨rfl, g1⟩
  clear HA
  go_wp2_with fail
  refine (HL.out _ g1).mono ?_
  rintro e w1' ⟨r, rfl, rfl, rfl | ⟨rfl, hlen, hS⟩⟩
  · go_wp2
    go_ret
    exact ⟨rfl, g1⟩
  have hl : l.length ≤ 41 := by omega
  have zl : (l.length : Int) ≤ 41 := by omega
  have HS := hid1 hS
  clear HL hlen hS
  go_wp2_with fail
  refine (HO.out _ g1 (by omega) HS.out).mono ?_
  rintro e w2 ⟨v2, rfl, hr2, h2⟩
  have g2 := below_then g1 h2
  have HR2 := hid1 hr2
  clear hr2 h2 g1
  go_wp2_with fail
  refine (HCy.out _ g2 v2 HR2.out (by omega) HS.out).mono ?_
  rintro e w3 ⟨uc, ec, rfl, h3, hc⟩
  have g3 := below_then g2 h3
  clear h3 HR2 HCy g2
  rcases hc with ⟨hf, he, pu, cu, rfl⟩ | ⟨hf, rfl, c, hcy, hcr⟩
  · obtain ⟨t, u, rfl⟩ := he.some hf
    go_wp2
    go_ret
    exact ⟨rfl, g3⟩
  have HC := hid1 hcy
  have HCR := hid1 hcr
  have HF := hid1 hf
  clear hf hcy hcr
  obtain ⟨pc, cc, rfl, -⟩ := HCR.out
  go_wp2_with fail
  refine (HO.out _ g3 (by omega) HS.out).mono ?_
  rintro e w4 ⟨v4, rfl, hr4, h4⟩
  have g4 := below_then g3 h4
  have HR4 := hid1 hr4
  have HCR4 := hid1 (HCR.out.below h4)
  clear hr4 h4 g3 HO HCR
  go_wp2_with fail
  refine (HOr.out _ g4 v4 HR4.out (by omega) HS.out).mono ?_
  rintro e w5 ⟨uo, eo, rfl, h5, ho⟩
  have g5 := below_then g4 h5
  have HCR5 := hid1 (HCR4.out.below h5)
  clear h5 HR4 HOr g4 HCR4
  rcases ho with ⟨hf, _⟩ | ⟨_, hno, rfl, pu, cu, rfl⟩ | ⟨_, o, ho, rfl, hor⟩
  · exact absurd HF.out hf
  · have hcp := cyc_some HC.out hno
    have zc : (0 : Int) < (c.length : Int) := by omega
    have zc2 : ((c.length : Int) == 0) = false := beq_eq_false_iff_ne.2 (by omega)
    have hcl : c.length ≤ 41 := by
      have := (HC.out.first hcp).2
      obtain ⟨t, ht⟩ : ∃ t, c.length = t + 1 := ⟨c.length - 1, by omega⟩
      have hw := this.2.1
      rw [ht] at hw
      obtain ⟨s, hs, hws⟩ := hw.short
      have := this.2.2 (s + 1) (by omega) hws
      omega
    have zcl : (c.length : Int) ≤ 41 := by omega
    simp only [erOf]
    go_wp2
    go_loopw [7] (fun iv wr => ∃ i : Nat, i ≤ c.length ∧ iv = .int .i64 i ∧ ∃ q, wr = w5.drewN q) (fun iv _ => c.length - (intOf iv).toNat)
    case atStart => exact ⟨0, Nat.zero_le _, rfl, 0, rfl⟩
    case round =>
      obtain ⟨i, hil, rfl, q, rfl⟩ := hrel
      have c0 : (0 : Int) ≤ (i : Int) := by omega
      by_cases hlt : i < c.length
      · have c1 : (i : Int) < (c.length : Int) := by omega
        have hm : (i + 1) % c.length < c.length := Nat.mod_lt _ hcp
        obtain ⟨pc', cc', e, hcin⟩ := HCR5.out
        obtain ⟨rfl, rfl⟩ : pc = pc' ∧ cc = cc' := by simpa using e
        obtain ⟨gc, oc, rfl, hgc, hcc⟩ := hcin (by intro e; rw [e] at hlt; simp at hlt)
        have d1 : (w5.drewN q).cell? ⟨gc, oc + i, none⟩ = some (nv c[i]) := hcc i hlt
        have d2 : (w5.drewN q).cell? ⟨gc, oc + (i + 1) % c.length, none⟩ = some (nv (c[(i + 1) % c.length])) := hcc _ hm
        have l1 := HC.out.lt i hlt
        have l2 := HC.out.lt _ hm
        have hn := HC.out.round i hlt
        have HNN := HN.out _ (below_draws g5 q) HS.out c[i] (c[(i + 1) % c.length]) l1 l2
        rw [hn] at HNN
        clear e hcin hcc hn
        generalize hx : c[i] = x at *
        generalize hy : c[(i + 1) % c.length] = y at *
        generalize hmm : (i + 1) % c.length = m at *
        have x0 : (0 : Int) ≤ (x : Int) := by omega
        have y0 : (0 : Int) ≤ (y : Int) := by omega
        have x1 : (x : Int) < (l.length : Int) := by omega
        have y1 : (y : Int) < (l.length : Int) := by omega
        have m0 : (0 : Int) ≤ (m : Int) := by omega
        have m1 : (m : Int) < (c.length : Int) := by omega
        have hrem : ((i : Int) + 1).tmod (c.length : Int) = (m : Int) := by
          rw [Int.tmod_eq_emod_of_nonneg (by omega), ← hmm]
          simp
        clear hx hy hmm
        go_wp2_with fail
        refine Calls.mono HNN ?_
        rintro e w6 ⟨rfl, q2, rfl⟩
        clear HNN
        go_wp2
        exact ⟨⟨i + 1, by omega, by go_num, q + q2, by simp [World.drewN]⟩, by simp [intOf]; omega⟩
      · have c1 : (c.length : Int) ≤ (i : Int) := by omega
        go_wp2
        go_ret
        exact ⟨rfl, below_draws g5 q⟩
  · have hcn := cyc_none HC.out ho
    have Hzc : Hid (((c.length : Int) == 0) = true) := hid1 (by rw [hcn]; rfl)
    have Hol := hid1 (Ru.order_len ho)
    have hol2 : o.length ≤ 41 := by rw [Hol.out]; exact hl
    have zol2 : (o.length : Int) ≤ 41 := by omega
    obtain ⟨hnd, hlt⟩ := Ru.order_nodup ho
    obtain ⟨htp, -⟩ := Ru.order_some ho
    have Hnd := hid1 hnd
    have Hlt := hid1 hlt
    have Htp := hid1 htp
    have HOR := hid1 hor
    have hml : l.length ≤ maxLen := by unfold maxLen; omega
    have hby : i0.bytes * l.length ≤ 281474976710656 := by rw [hz2]; omega
    clear hnd hlt htp hor HC HCR5 hcn ho HF
    obtain ⟨po, co, rfl, hoin⟩ := HOR.out
    have HOI := hid1 hoin
    clear hoin HOR
    go_wp2_with (at_make; refine wpList_make_full _ rfl _ _ 32 rfl w5.heap.size 4 i0 (.bool false) 1 Tryz.underlying32 hi hz0 hz1 .i64 .i64 _ _ l.length rfl rfl (by omega) (by omega) hby hml (Nat.le_refl _) ?_; intro w6 hown hgrow; have O1 := made_row hown)
    have B1 : Below w5.heap.size w5 w6 := below_grown (Below.refl _ w5) (Nat.le_refl _) hgrow
    clear hown hgrow
    go_loopw [10] (fun iv wr => ∃ i : Nat, i ≤ o.length ∧ iv = .int .i64 i ∧ Own wr w5.heap.size w5.heap.size l.length (fun j => decide (j ∈ o.take i)) ∧ Below w5.heap.size w5 wr) (fun iv _ => o.length - (intOf iv).toNat)
    case atStart => exact ⟨0, Nat.zero_le _, rfl, by simpa using O1, B1⟩
    case round =>
      obtain ⟨i, hil, rfl, O, B⟩ := hrel
      clear O1 B1
      have c0 : (0 : Int) ≤ (i : Int) := by omega
      by_cases hilt : i < o.length
      · have c1 : (i : Int) < (o.length : Int) := by omega
        obtain ⟨go, oo, rfl, hgo, hoc⟩ := HOI.out (by intro e; rw [e] at hilt; simp at hilt)
        have HGx := hid1 fun W (hW : Below w5.heap.size w5 W) => (hW.cell (p := ⟨go, oo + i, none⟩) hgo).trans (hoc i hilt)
        have d1 := HGx.out wr B
        have x1 := Hlt.out _ (List.getElem_mem hilt)
        have hseen : o[i] ∉ o.take i := fun hm => by
          obtain ⟨j, hj, e⟩ := List.getElem_of_mem hm
          rw [List.getElem_take] at e
          have hji : j < i := by simp at hj; omega
          exact List.pairwise_iff_getElem.1 Hnd.out j i (by omega) hilt hji e
        have ds := O.cell x1
        rw [decide_eq_false hseen] at ds
        have HTk : Hid (∀ k, k < l.length → Ru.needs l o[i] k = true → decide (k ∈ o.take i) = true) := hid1 fun k _ h => decide_eq_true (Htp.out i hilt k h)
        have HNk := hid1 fun W (g : Below w5.heap.size w5 W) k (hk : k < l.length) => HN.out W (below_then g5 g) HS.out o[i] k x1 hk
        have HSet : Hid (∀ j, j < l.length → (if j = o[i] then true else decide (j ∈ o.take i)) = decide (j ∈ o.take (i + 1))) := hid1 fun j _ => by
          rw [List.take_succ_eq_append_getElem hilt]
          by_cases e : j = o[i]
          · rw [if_pos e]
            exact (decide_eq_true (by rw [e]; exact List.mem_append_right _ (List.mem_singleton.2 rfl))).symm
          · rw [if_neg e, decide_eq_decide, List.mem_append, List.mem_singleton]
            exact ⟨Or.inl, fun h => h.resolve_right e⟩
        clear hoc hseen
        generalize hx : o[i] = x at *
        clear hx
        have x0 : (0 : Int) ≤ (x : Int) := by omega
        have x2 : (x : Int) < (l.length : Int) := by omega
        have x3 : decide ((x : Int) < 0) = false := decide_eq_false (by omega)
        have x4 : decide (l.length ≤ x) = false := decide_eq_false (by omega)
        have HO := hid1 O
        generalize wr = w7 at *
        clear O
        go_wp2
        go_loopw [11] (fun kv wx => ∃ k : Nat, k ≤ l.length ∧ kv = .int .i64 k ∧ ∃ q, wx = w7.drewN q) (fun kv _ => l.length - (intOf kv).toNat)
        case atStart => exact ⟨0, Nat.zero_le _, rfl, 0, rfl⟩
        case round =>
          clear d1 ds
          obtain ⟨k, hkl, rfl, q, rfl⟩ := hrel
          have k0 : (0 : Int) ≤ (k : Int) := by omega
          have d1 := HGx.out (w7.drewN q) (below_draws B q)
          by_cases hklt : k < l.length
          · have k1 : (k : Int) < (l.length : Int) := by omega
            have HC := HNk.out (w7.drewN q) (below_draws B q) k hklt
            cases hn : Ru.needs l x k with
            | true =>
              rw [hn] at HC
              have hsk := HTk.out k hklt hn
              go_wp2_with fail
              refine Calls.mono HC ?_
              rintro e w8 ⟨rfl, q2, rfl⟩
              have dk := HO.out.cell hklt
              rw [hsk] at dk
              have dk2 : (w7.drewN (q + q2)).cell? ⟨w5.heap.size, k, none⟩ = some (.bool true) := dk
              clear HC hsk
              go_wp2
              go_roundw
              case rel => exact ⟨k + 1, by omega, by go_num, q + q2, by first | rfl | simp [World.drewN]⟩
              case measure => simp [intOf]; omega
            | false =>
              rw [hn] at HC
              go_wp2_with fail
              refine Calls.mono HC ?_
              rintro e w8 ⟨rfl, q2, rfl⟩
              clear HC
              go_wp2
              go_roundw
              case rel => exact ⟨k + 1, by omega, by go_num, q + q2, by first | rfl | simp [World.drewN]⟩
              case measure => simp [intOf]; omega
          · have k1 : (l.length : Int) ≤ (k : Int) := by omega
            have O8 : Own (w7.drewN q) w5.heap.size w5.heap.size l.length (fun j => decide (j ∈ o.take i)) := HO.out
            have hcx := O8.cell x1
            have hfx := World.ownsRow.frozenAt O8 x
            have O9 := O8.set x true HSet.out
            have B9 := (below_draws B q).setCell (p := ⟨w5.heap.size, x, none⟩) (Nat.le_refl _) (.bool true)
            clear O8
            go_wp2
            exact ⟨⟨i + 1, by omega, by go_num, O9, B9⟩, by simp [intOf]; omega⟩
      · have c1 : (o.length : Int) ≤ (i : Int) := by omega
        have zol : ((o.length : Int) == (l.length : Int)) = true := by rw [Hol.out]; simp
        have zc := Hzc.out
        go_wp2
        go_ret
        exact ⟨rfl, below_then g5 B⟩
end Go.Proofs.YtmeplgihnlpjcaaGreatDoor
