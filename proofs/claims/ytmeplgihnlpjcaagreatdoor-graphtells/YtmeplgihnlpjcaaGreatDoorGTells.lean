/- The law GraphTells: the walk, over what package graph's functions and the document's answer's CycleOf tell. -/
import Derived.Test.YtmeplgihnlpjcaaGreatDoorMG16
import Derived.Test.YtmeplgihnlpjcaaGreatDoorGTell
import Derived.Test.YtmeplgihnlpjcaaGreatDoorRuleO
import Derived.Test.YtmeplgihnlpjcaaGreatDoorMG19
namespace Go.Proofs.YtmeplgihnlpjcaaGreatDoor
open Go.RowKit Go.Shelf Go.Lib

/-- What the document's answer's CycleOf tells. -/
def CycleOfTells : Prop := ∀ (W : World) v l, RRow W v l → l.length ≤ 41 → (∀ x ∈ l, x.Small) → Calls Tryz.prog 22 #[v] W fun e w' => ∃ u c, e = .returned u ∧ Below W.heap.size W w' ∧ Ru.IsCycle l c ∧ NIRow w' u c

theorem erCycle_coded {w : World} {es : Nat → Addr} (hE : E12 w es) : Calls Tryz.prog 21 #[erOf es 9, .int .i64 9] w fun e w' => e = .returned (.bool true) ∧ Below w.heap.size w w' :=
  coded_er 9 (.inr ⟨8, by omega, rfl⟩) es w hE

/-- A list with an error is empty. -/
theorem NoRow.cases {v : Value} (h : NoRow v) : ∃ p cap, v = .slice p 0 cap := h

theorem cyc_len {l : List Ru} {c : List Nat} (hc : Ru.IsCycle l c) : c.length ≤ l.length := by
  by_cases hp : 0 < c.length
  · have hd := (hc.first hp).2
    obtain ⟨t, ht⟩ : ∃ t, c.length = t + 1 := ⟨c.length - 1, by omega⟩
    have hw := hd.2.1
    rw [ht] at hw
    obtain ⟨s, hs, hws⟩ := hw.short
    have := hd.2.2 (s + 1) (by omega) hws
    omega
  · omega
theorem flat_len2 : ∀ (l : List Ru), (∀ x ∈ l, x.ins.length ≤ 12) → (l.flatMap Ru.ins).length ≤ 12 * l.length
  | [], _ => by simp
  | x :: r, h => by
    have ih := flat_len2 r fun y hy => h y (List.mem_cons_of_mem _ hy)
    have hx := h x (by simp)
    rw [List.flatMap_cons, List.length_append, List.length_cons]
    omega
theorem leaf_len2 {l : List Ru} {r : List (List UInt8)} (h : Ru.Leaves l r) (h12 : ∀ x ∈ l, x.ins.length ≤ 12) : r.length ≤ 12 * l.length :=
  Nat.le_trans (Ru.nodup_sub h.once fun x hx => by
    obtain ⟨y, hy, hxy⟩ := ((h.mem x).1 hx).1
    exact List.mem_flatMap.2 ⟨y, hy, hxy⟩) (flat_len2 l h12)
theorem filter_eq {l : List Ru} {outs : List (List UInt8)} {f g : Nat → Bool} (hf : Ru.Needed l outs f) (hg : Ru.Needed l outs g) : (List.range l.length).filter f = (List.range l.length).filter g :=
  List.filter_congr fun k hk => hf.unique hg k (List.mem_range.1 hk)

set_option maxRecDepth 100000 in
set_option maxHeartbeats 16000000 in
theorem GraphTells_calls {w : World} {es : Nat → Addr} (hE : E12 w es) (hA : AE w (erOf es)) (HG : Graphs es) (hCyc : CycleOfTells) (v : Value) (l : List Ru) (hrow : RRow w v l) (vo : Value) (outs : List (List UInt8)) (hro : XRow w vo outs) :
    Calls Tryz.prog 4 #[v, vo] w fun e w' => e = .returned (.bool true) ∧ Below w.heap.size w w' := by
  have hW : GraphW w es := ⟨⟨hE.es, hA⟩, hE.c8⟩
  have hNo : w.cell? ⟨0, 0, none⟩ = some (erOf es 6) := hE.c5
  have HA := hid1 (ahead_calls hW HG)
  have HL := hid1 fun W (g : Below w.heap.size w W) => LongRules_any v l 20 (by omega) (hrow.below g)
  have HLT := hid1 fun W (g : Below w.heap.size w W) => LongTexts_any vo outs 10 300 (by omega) (by omega) (hro.below g).irow
  have HO := hid1 fun W (g : Below w.heap.size w W) (hl : l.length ≤ 1000) (hS : ∀ x ∈ l, x.Small) => OwnRules_calls v l hl (hrow.below g) fun x hx => (hS x hx).many
  have HOT := hid1 fun W (g : Below w.heap.size w W) (h : outs.length ≤ 12) => OwnTexts_x vo outs (hro.below g) h
  have HOr := hid1 fun W (g : Below w.heap.size w W) u (hu : RRow W u l) (hl : l.length ≤ 1000) (hS : ∀ x ∈ l, x.Small) => HG.order W u l (hW.below g) hu hl hS
  have HCy := hid1 fun W (g : Below w.heap.size w W) u (hu : RRow W u l) (hl : l.length ≤ 1000) (hS : ∀ x ∈ l, x.Small) => HG.cycle W u l (hW.s.below g) hu hl hS
  have HNe := hid1 fun W (g : Below w.heap.size w W) u (hu : RRow W u l) (hl : l.length ≤ 1000) (hS : ∀ x ∈ l, x.Small) vo (ho : XRow W vo outs) (h1 : outs.length ≤ 1000) (h2 : ∀ x ∈ outs, x.length ≤ 1000) => HG.needs W u l vo outs (hW.s.below g) (cell_below' hNo g) hu hl hS ho h1 h2
  have HLe := hid1 fun W (g : Below w.heap.size w W) u (hu : RRow W u l) (hl : l.length ≤ 1000) (hS : ∀ x ∈ l, x.Small) => HG.leaves W u l (hW.s.below g) hu hl hS
  have HSF := hid1 fun W (g : Below w.heap.size w W) (hl : l.length ≤ 1000) (hS : ∀ x ∈ l, x.Small) => SheetFault_calls v l (hrow.below g) hl hS
  have HFd := hid1 fun W (g : Below w.heap.size w W) u f (h : ErrV W es u f) => faulted_calls (hE.below g) u f h
  have HCd := hid1 fun W (g : Below w.heap.size w W) => erCycle_coded (hE.below g)
  have HAll := hid1 fun W (h : l.length ≤ 1000) => AllOf_calls l.length h W
  have HOf := hid1 fun W (g : Below w.heap.size w W) (hl : l.length ≤ 1000) (hS : ∀ x ∈ l, x.Small) gs cs sm (hs : ∀ j, j < l.length → W.cell? ⟨gs, j, none⟩ = some (.bool (sm j))) => OrderOf_calls v l (hrow.below g) hl (fun x hx => Nat.le_trans (hS x hx).many (by omega)) gs cs sm hs
  have HCf := hid1 fun W (g : Below w.heap.size w W) (hl : l.length ≤ 41) (hS : ∀ x ∈ l, x.Small) => hCyc W v l (hrow.below g) hl hS
  have HLf := hid1 fun W (g : Below w.heap.size w W) (hl : l.length ≤ 1000) (hS : ∀ x ∈ l, x.Small) => LeavesOf_calls v l (hrow.below g) hl fun x hx => (hS x hx).many
  have HNf := hid1 fun W (g : Below w.heap.size w W) (hl : l.length ≤ 1000) (hS : ∀ x ∈ l, x.Small) (h1 : outs.length ≤ 1000) => NeededOf_calls v l (hrow.below g) hl (fun x hx => Nat.le_trans (hS x hx).many (by omega)) vo outs (hro.below g).irow h1
  obtain ⟨p, cap, rfl, -⟩ := hrow
  obtain ⟨po, co, rfl, -⟩ := hro
  clear hW HG hCyc hE hA hNo
  go_enter Tryz.func4, Tryz.ntmps4
  go_wp2_with fail
  refine HA.out.mono ?_
  rintro e w1 ⟨rfl, g1⟩
  clear HA
  go_wp2_with fail
  refine (HL.out _ g1).mono ?_
  rintro e w1' ⟨r, rfl, rfl, rfl | ⟨rfl, hlen, hS⟩⟩
  · go_wp2
    go_ret
    exact ⟨rfl, g1⟩
  have hl : l.length ≤ 41 := by omega
  have zl : (l.length : Int) ≤ 41 := by omega
  have HS := hid1 hS
  clear HL hlen hS
  go_wp2_with fail
  refine (HLT.out _ g1).mono ?_
  rintro e w2' ⟨r, rfl, rfl, rfl | ⟨rfl, hol, hox⟩⟩
  · go_wp2
    go_ret
    exact ⟨rfl, g1⟩
  have HOX := hid1 hox
  clear HLT hox
  go_wp2_with fail
  refine (HO.out _ g1 (by omega) HS.out).mono ?_
  rintro e w2 ⟨v2, rfl, hr2, h2⟩
  have g2 := below_then g1 h2
  have R2 := hid1 hr2
  clear hr2 h2 g1
  go_wp2_with fail
  refine (HOr.out _ g2 v2 R2.out (by omega) HS.out).mono ?_
  rintro e w3 ⟨uo, eo, rfl, h3, hto⟩
  have g3 := below_then g2 h3
  have TO := hid1 hto
  clear h3 g2 R2 HOr hto
  go_wp2_with fail
  refine (HO.out _ g3 (by omega) HS.out).mono ?_
  rintro e w4 ⟨v4, rfl, hr4, h4⟩
  have g4 := below_then g3 h4
  have R4 := hid1 hr4
  have B34 := hid1 h4
  clear hr4 h4 g3
  go_wp2_with fail
  refine (HCy.out _ g4 v4 R4.out (by omega) HS.out).mono ?_
  rintro e w5 ⟨uc, ec, rfl, h5, htc⟩
  have g5 := below_then g4 h5
  have TC := hid1 htc
  have B35 := hid1 (below_then B34.out h5)
  clear h5 g4 R4 HCy htc B34
  go_wp2_with fail
  refine (HO.out _ g5 (by omega) HS.out).mono ?_
  rintro e w6 ⟨v6, rfl, hr6, h6⟩
  have g6 := below_then g5 h6
  have R6 := hid1 hr6
  have B36 := hid1 (below_then B35.out h6)
  have B56 := hid1 h6
  clear hr6 h6 g5 B35
  go_wp2_with fail
  refine (HOT.out _ g6 (by omega)).mono ?_
  rintro e w7 ⟨v7, rfl, hx7, -, h7⟩
  have g7 := below_then g6 h7
  have X7 := hid1 hx7
  have R7 := hid1 (R6.out.below h7)
  have B37 := hid1 (below_then B36.out h7)
  have B57 := hid1 (below_then B56.out h7)
  clear hx7 h7 g6 R6 B36 B56 HOT
  go_wp2_with fail
  refine (HNe.out _ g7 v6 R7.out (by omega) HS.out v7 X7.out (by omega) (fun x hx => Nat.le_trans (HOX.out x hx) (by omega))).mono ?_
  rintro e w8 ⟨un, en, rfl, h8, htn⟩
  have g8 := below_then g7 h8
  have TN := hid1 htn
  have B38 := hid1 (below_then B37.out h8)
  have B58 := hid1 (below_then B57.out h8)
  clear h8 g7 R7 X7 HNe htn B37 B57
  go_wp2_with fail
  refine (HO.out _ g8 (by omega) HS.out).mono ?_
  rintro e w9 ⟨v9, rfl, hr9, h9⟩
  have g9 := below_then g8 h9
  have R9 := hid1 hr9
  have B39 := hid1 (below_then B38.out h9)
  have B59 := hid1 (below_then B58.out h9)
  have B89 := hid1 h9
  clear hr9 h9 g8 B38 B58 HO
  go_wp2_with fail
  refine (HLe.out _ g9 v9 R9.out (by omega) HS.out).mono ?_
  rintro e w10 ⟨ul, el, rfl, h10, htl⟩
  have g10 := below_then g9 h10
  have TL := hid1 htl
  have B3 := hid1 (below_then B39.out h10)
  have B5 := hid1 (below_then B59.out h10)
  have B8 := hid1 (below_then B89.out h10)
  clear h10 g9 R9 HLe htl B39 B59 B89
  go_wp2_with fail
  refine (HSF.out _ g10 (by omega) HS.out).mono ?_
  rintro e w11 ⟨rfl, h11⟩
  have g11 := below_then g10 h11
  have C3 := hid1 (below_then B3.out h11)
  have C5 := hid1 (below_then B5.out h11)
  have C8 := hid1 (below_then B8.out h11)
  have C10 := hid1 h11
  clear h11 g10 HSF B3 B5 B8
  by_cases hf : (Ru.fault l).1 = 0
  · have HFz := hid1 hf
    have zf : ((Ru.fault l).1 : Int) = 0 := by omega
    obtain ⟨rfl, c, hcy, hcr⟩ : ec = .nilIface ∧ ∃ c, Ru.IsCycle l c ∧ NIRow w5 uc c := by
      rcases TC.out with ⟨h, _⟩ | ⟨_, h1, h2⟩
      · exact absurd hf h
      · exact ⟨h1, h2⟩
    obtain ⟨rfl, rl, hlv, hlr⟩ : el = .nilIface ∧ ∃ r, Ru.Leaves l r ∧ IRow w10 ul r := by
      rcases TL.out with ⟨h, _⟩ | ⟨_, h1, h2⟩
      · exact absurd hf h
      · exact ⟨h1, h2⟩
    have hC1 := hid1 hcy
    have hC2 := hid1 hcr
    have hV1 := hid1 hlv
    have hV2 := hid1 hlr
    obtain ⟨pc, cc, rfl, -⟩ := hcr
    obtain ⟨pl, cl, rfl, -⟩ := hlr
    have hb0 : Below w11.heap.size w11 (w11.alloc (.cells #[.int .i64 ((Ru.fault l).1 : Nat), .int .i64 (Ru.fault l).2] 41)) := (Below.refl _ w11).alloc (Nat.le_refl _) _
    have hto := TO.out
    clear TC TL TO hcy hlv
    generalize hfv : ((Ru.fault l).1 : Int) = fv at *
    generalize (Ru.fault l).2 = fa at *
    subst zf
    clear hfv hf
    go_wp2_with fail
    refine (HAll.out _ (by omega)).mono ?_
    rintro e wx ⟨gs, rfl, hos, hx⟩
    have bx := below_then hb0 hx
    clear hx hb0 HAll
    go_wp2_with fail
    refine (HOf.out _ (below_then g11 bx) (by omega) HS.out gs l.length (fun _ => true) (fun j hj => hos.cell hj)).mono ?_
    rintro e wy ⟨uo2, b2, rfl, hy, hor⟩
    have by' := below_then bx hy
    have gy := below_then g11 by'
    clear hy bx hos HOf
    rcases hor with ⟨rfl, rfl, hno⟩ | ⟨o, rfl, hso, hnr, -, hlt⟩
    · have hto2 : eo = erOf es 9 ∧ NoRow uo := by
        rcases hto with ⟨h, _⟩ | ⟨_, _, h1, h2⟩ | ⟨_, o', h1, _⟩
        · exact absurd HFz.out h
        · exact ⟨h1, h2⟩
        · rw [hno] at h1
          cases h1
      obtain ⟨rfl, po2, co2, rfl⟩ := hto2
      have HQ := hid1 (HCd.out _ gy)
      clear hto HCd
      simp only [erOf] at HQ ⊢
      go_wp2_with fail
      refine HQ.out.mono ?_
      rintro e wA ⟨rfl, hA⟩
      have gA := below_then gy hA
      have DA5 := hid1 (below_then C5.out (below_then by' hA))
      have DA8 := hid1 (below_then C8.out (below_then by' hA))
      have DA10 := hid1 (below_then C10.out (below_then by' hA))
      clear hA by' gy C3 C5 C8 C10 HQ
      go_wp2_with fail
      refine (HCf.out _ gA hl HS.out).mono ?_
      rintro e wB ⟨uc2, c2, rfl, hB, hic, hnc⟩
      have gB := below_then gA hB
      have D5 := hid1 (below_then DA5.out hB)
      have D8 := hid1 (below_then DA8.out hB)
      have D10 := hid1 (below_then DA10.out hB)
      obtain rfl := hC1.out.unique hic
      have SC := hid1 (SameInts_ni _ _ c (hC2.out.below D5.out) hnc (by have := cyc_len hC1.out; omega))
      clear hB hic hnc HCf gA DA5 DA8 DA10
      go_wp2_with fail
      refine SC.out.mono ?_
      rintro e wC ⟨rfl, qC, rfl⟩
      clear SC
      have gC := below_draws gB qC
      have F8 := hid1 (below_draws D8.out qC)
      have F10 := hid1 (below_draws D10.out qC)
      clear gB D5 D8 D10
      go_wp2_with fail
      refine (HLf.out _ gC (by omega) HS.out).mono ?_
      rintro e wD ⟨ul2, r2, rfl, hT2, hL2, hD⟩
      have gD := below_then gC hD
      have G8 := hid1 (below_then F8.out hD)
      have G10 := hid1 (below_then F10.out hD)
      obtain rfl := hV1.out.unique hL2
      have ST := hid1 (SameTexts_ir _ _ rl (hV2.out.below G10.out) hT2.irow (by have := leaf_len2 hV1.out fun x hx => (HS.out x hx).many; omega))
      clear hD hT2 hL2 HLf gC F8 F10
      go_wp2_with fail
      refine ST.out.mono ?_
      rintro e wE ⟨rfl, qE, rfl⟩
      clear ST
      have gE := below_draws gD qE
      have K8 := hid1 (below_draws G8.out qE)
      clear gD G8 G10
      go_wp2_with fail
      refine (HNf.out _ gE (by omega) HS.out (by omega)).mono ?_
      rintro e wF ⟨un2, bad, rfl, hF, hN⟩
      have gF := below_then gE hF
      have L8 := hid1 (below_then K8.out hF)
      clear gE K8 hF HNf
      rcases hN with ⟨k, rfl, hk, hno, hyes, rfl⟩ | ⟨rfl, hall, gr, fr, rfl, hown, hneed⟩
      · have hTN : ErrV w8 es en (6, (k : Int)) ∧ NoRow un := by
          rcases TN.out with ⟨h, _⟩ | ⟨_, k', hk', hno', hyes', he, hr⟩ | ⟨_, hall, _⟩
          · exact absurd HFz.out h
          · have : k' = k := by
              rcases Nat.lt_trichotomy k' k with h | h | h
              · obtain ⟨x, hx, e⟩ := hyes k' hk' h
                exact absurd e (hno' x hx)
              · exact h
              · obtain ⟨x, hx, e⟩ := hyes' k hk h
                exact absurd e (hno x hx)
            subst this
            exact ⟨he, hr⟩
          · obtain ⟨x, hx, e⟩ := hall k hk
            exact absurd e (hno x hx)
        obtain ⟨hE6, pn, cn, rfl⟩ := hTN
        have HX := hid1 (HFd.out _ gF en (6, (k : Int)) (hE6.below L8.out))
        have zk : (0 : Int) ≤ (k : Int) := by omega
        clear hno hyes hE6 TN
        go_wp2_with fail
        refine HX.out.mono ?_
        rintro e wG ⟨rfl, hG⟩
        have gG := below_then gF hG
        go_wp2
        go_ret
        exact ⟨rfl, gG⟩
      · have hTN : en = .nilIface ∧ NIRow w8 un ((List.range l.length).filter fr) := by
          rcases TN.out with ⟨h, _⟩ | ⟨_, k', hk', hno', _⟩ | ⟨_, _, he, f', hf', hr⟩
          · exact absurd HFz.out h
          · obtain ⟨x, hx, e⟩ := hall k' hk'
            exact absurd e (hno' x hx)
          · rw [filter_eq hf' hneed] at hr
            exact ⟨he, hr⟩
        obtain ⟨rfl, hnr⟩ := hTN
        have HNB := hid1 (numbers_calls gr l.length fr (by omega) (fun j hj => hown.cell hj))
        have HNR := hid1 (hnr.below L8.out)
        have hfl : ((List.range l.length).filter fr).length ≤ 1000 := by
          have := List.length_filter_le fr (List.range l.length)
          simp at this
          omega
        have HFL := hid1 hfl
        obtain ⟨pn, cn, rfl, -⟩ := hnr
        clear hall hown hneed TN hfl
        go_wp2_with fail
        refine HNB.out.mono ?_
        rintro e wG ⟨um, rfl, hum, hG⟩
        have gG := below_then gF hG
        have SN := hid1 (SameInts_ni _ _ _ (HNR.out.below hG) hum.ni HFL.out)
        clear hum hG HNB HNR HFL
        go_wp2_with fail
        refine SN.out.mono ?_
        rintro e wH ⟨rfl, qH, rfl⟩
        go_wp2
        go_ret
        exact ⟨rfl, below_draws gG qH⟩
    · have hto2 : eo = .nilIface ∧ NIRow w3 uo o := by
        rcases hto with ⟨h, _⟩ | ⟨_, h1, _⟩ | ⟨_, o', h1, h2, h3⟩
        · exact absurd HFz.out h
        · rw [hso] at h1
          cases h1
        · rw [hso] at h1
          cases h1
          exact ⟨h2, h3⟩
      obtain ⟨rfl, hno3⟩ := hto2
      have hol2 := Ru.order_len hso
      have SO := hid1 (SameInts_ni _ _ o (hno3.below (below_then C3.out by')) hnr.ni (by omega))
      obtain ⟨po2, co2, rfl, -⟩ := hno3
      clear hto HCd hnr hlt hol2
      go_wp2_with fail
      refine SO.out.mono ?_
      rintro e wA ⟨rfl, qA, rfl⟩
      have gA := below_draws gy qA
      have DA5 := hid1 (below_draws (below_then C5.out by') qA)
      have DA8 := hid1 (below_draws (below_then C8.out by') qA)
      have DA10 := hid1 (below_draws (below_then C10.out by') qA)
      clear by' gy C3 C5 C8 C10 SO
      go_wp2_with fail
      refine (HCf.out _ gA hl HS.out).mono ?_
      rintro e wB ⟨uc2, c2, rfl, hB, hic, hnc⟩
      have gB := below_then gA hB
      have D5 := hid1 (below_then DA5.out hB)
      have D8 := hid1 (below_then DA8.out hB)
      have D10 := hid1 (below_then DA10.out hB)
      obtain rfl := hC1.out.unique hic
      have SC := hid1 (SameInts_ni _ _ c (hC2.out.below D5.out) hnc (by have := cyc_len hC1.out; omega))
      clear hB hic hnc HCf gA DA5 DA8 DA10
      go_wp2_with fail
      refine SC.out.mono ?_
      rintro e wC ⟨rfl, qC, rfl⟩
      clear SC
      have gC := below_draws gB qC
      have F8 := hid1 (below_draws D8.out qC)
      have F10 := hid1 (below_draws D10.out qC)
      clear gB D5 D8 D10
      go_wp2_with fail
      refine (HLf.out _ gC (by omega) HS.out).mono ?_
      rintro e wD ⟨ul2, r2, rfl, hT2, hL2, hD⟩
      have gD := below_then gC hD
      have G8 := hid1 (below_then F8.out hD)
      have G10 := hid1 (below_then F10.out hD)
      obtain rfl := hV1.out.unique hL2
      have ST := hid1 (SameTexts_ir _ _ rl (hV2.out.below G10.out) hT2.irow (by have := leaf_len2 hV1.out fun x hx => (HS.out x hx).many; omega))
      clear hD hT2 hL2 HLf gC F8 F10
      go_wp2_with fail
      refine ST.out.mono ?_
      rintro e wE ⟨rfl, qE, rfl⟩
      clear ST
      have gE := below_draws gD qE
      have K8 := hid1 (below_draws G8.out qE)
      clear gD G8 G10
      go_wp2_with fail
      refine (HNf.out _ gE (by omega) HS.out (by omega)).mono ?_
      rintro e wF ⟨un2, bad, rfl, hF, hN⟩
      have gF := below_then gE hF
      have L8 := hid1 (below_then K8.out hF)
      clear gE K8 hF HNf
      rcases hN with ⟨k, rfl, hk, hno, hyes, rfl⟩ | ⟨rfl, hall, gr, fr, rfl, hown, hneed⟩
      · have hTN : ErrV w8 es en (6, (k : Int)) ∧ NoRow un := by
          rcases TN.out with ⟨h, _⟩ | ⟨_, k', hk', hno', hyes', he, hr⟩ | ⟨_, hall, _⟩
          · exact absurd HFz.out h
          · have : k' = k := by
              rcases Nat.lt_trichotomy k' k with h | h | h
              · obtain ⟨x, hx, e⟩ := hyes k' hk' h
                exact absurd e (hno' x hx)
              · exact h
              · obtain ⟨x, hx, e⟩ := hyes' k hk h
                exact absurd e (hno x hx)
            subst this
            exact ⟨he, hr⟩
          · obtain ⟨x, hx, e⟩ := hall k hk
            exact absurd e (hno x hx)
        obtain ⟨hE6, pn, cn, rfl⟩ := hTN
        have HX := hid1 (HFd.out _ gF en (6, (k : Int)) (hE6.below L8.out))
        have zk : (0 : Int) ≤ (k : Int) := by omega
        clear hno hyes hE6 TN
        go_wp2_with fail
        refine HX.out.mono ?_
        rintro e wG ⟨rfl, hG⟩
        have gG := below_then gF hG
        go_wp2
        go_ret
        exact ⟨rfl, gG⟩
      · have hTN : en = .nilIface ∧ NIRow w8 un ((List.range l.length).filter fr) := by
          rcases TN.out with ⟨h, _⟩ | ⟨_, k', hk', hno', _⟩ | ⟨_, _, he, f', hf', hr⟩
          · exact absurd HFz.out h
          · obtain ⟨x, hx, e⟩ := hall k' hk'
            exact absurd e (hno' x hx)
          · rw [filter_eq hf' hneed] at hr
            exact ⟨he, hr⟩
        obtain ⟨rfl, hnr⟩ := hTN
        have HNB := hid1 (numbers_calls gr l.length fr (by omega) (fun j hj => hown.cell hj))
        have HNR := hid1 (hnr.below L8.out)
        have hfl : ((List.range l.length).filter fr).length ≤ 1000 := by
          have := List.length_filter_le fr (List.range l.length)
          simp at this
          omega
        have HFL := hid1 hfl
        obtain ⟨pn, cn, rfl, -⟩ := hnr
        clear hall hown hneed TN hfl
        go_wp2_with fail
        refine HNB.out.mono ?_
        rintro e wG ⟨um, rfl, hum, hG⟩
        have gG := below_then gF hG
        have SN := hid1 (SameInts_ni _ _ _ (HNR.out.below hG) hum.ni HFL.out)
        clear hum hG HNB HNR HFL
        go_wp2_with fail
        refine SN.out.mono ?_
        rintro e wH ⟨rfl, qH, rfl⟩
        go_wp2
        go_ret
        exact ⟨rfl, below_draws gG qH⟩
  · have zf : (0 : Int) < ((Ru.fault l).1 : Int) := by omega
    have tO := TO.out.resolve_right (by rintro (⟨h, _⟩ | ⟨h, _⟩) <;> exact hf h)
    have tc := TC.out.resolve_right (by rintro ⟨h, _⟩; exact hf h)
    have tn := TN.out.resolve_right (by rintro (⟨h, _⟩ | ⟨h, _⟩) <;> exact hf h)
    have tl := TL.out.resolve_right (by rintro ⟨h, _⟩; exact hf h)
    obtain ⟨-, e1, p1, c1, rfl⟩ := tO
    obtain ⟨-, e2, p2, c2, rfl⟩ := tc
    obtain ⟨-, e3, p3, c3, rfl⟩ := tn
    obtain ⟨-, e4, p4, c4, rfl⟩ := tl
    have E1 := hid1 (e1.below C3.out)
    have E2 := hid1 (e2.below C5.out)
    have E3 := hid1 (e3.below C8.out)
    have E4 := hid1 (e4.below C10.out)
    clear e1 e2 e3 e4 TO TC TN TL C3 C5 C8 C10 hf HCd HAll HOf HCf HLf HNf
    have hb0 : Below w11.heap.size w11 (w11.alloc (.cells #[.int .i64 ((Ru.fault l).1 : Nat), .int .i64 (Ru.fault l).2] 41)) := (Below.refl _ w11).alloc (Nat.le_refl _) _
    have k0 : (w11.alloc (.cells #[.int .i64 ((Ru.fault l).1 : Nat), .int .i64 (Ru.fault l).2] 41)).cell? ⟨w11.heap.size, 0, none⟩ = some (.int .i64 ((Ru.fault l).1 : Nat)) := by simp
    have k1 : (w11.alloc (.cells #[.int .i64 ((Ru.fault l).1 : Nat), .int .i64 (Ru.fault l).2] 41)).cell? ⟨w11.heap.size, 1, none⟩ = some (.int .i64 (Ru.fault l).2) := by simp
    go_wp2_with fail
    refine (HFd.out _ (below_then g11 hb0) eo _ (E1.out.below hb0)).mono ?_
    rintro e w12 ⟨rfl, h12⟩
    have b12 := below_then hb0 h12
    have j0 := cell_below' k0 h12
    have j1 := cell_below' k1 h12
    clear h12
    go_wp2_with fail
    refine (HFd.out _ (below_then g11 b12) ec _ (E2.out.below b12)).mono ?_
    rintro e w13 ⟨rfl, h13⟩
    have b13 := below_then b12 h13
    have i0 := cell_below' j0 h13
    have i1 := cell_below' j1 h13
    clear h13 j0 j1 b12
    go_wp2_with fail
    refine (HFd.out _ (below_then g11 b13) en _ (E3.out.below b13)).mono ?_
    rintro e w14 ⟨rfl, h14⟩
    have b14 := below_then b13 h14
    have m0 := cell_below' i0 h14
    have m1 := cell_below' i1 h14
    clear h14 i0 i1 b13
    go_wp2_with fail
    refine (HFd.out _ (below_then g11 b14) el _ (E4.out.below b14)).mono ?_
    rintro e w15 ⟨rfl, h15⟩
    have b15 := below_then b14 h15
    go_wp2
    go_ret
    exact ⟨rfl, below_then g11 b15⟩
end Go.Proofs.YtmeplgihnlpjcaaGreatDoor
