import Derived.Test.YtbgkfmodbofalaaGreatDoorPL42
import Derived.Test.YtbgkfmodbofalaaGreatDoorPL10
import Derived.Test.YtbgkfmodbofalaaGreatDoorPL45
import Derived.Test.YtbgkfmodbofalaaGreatDoorPL39
namespace Go.Proofs.YtbgkfmodbofalaaGreatDoor
open Go.RowKit Go.Shelf Go.Lib
theorem LvRow.at {w : World} {p : Option Addr} {n c : Nat} {L : List (List Nat)} (h : LvRow w (.slice p n c) L) (hl : L ≠ []) : ∃ g o, p = some ⟨g, o, none⟩ ∧ g < w.heap.size ∧ ∀ j (hj : j < L.length), ∃ u, w.cell? ⟨g, o + j, none⟩ = some u ∧ NIRow w u L[j] := by
  obtain ⟨p', c', e, h1⟩ := h
  simp only [Value.slice.injEq] at e
  rw [e.1]
  exact h1 hl
theorem Ru.levels_len (l : List Ru) : (Ru.levels l).length = Ru.deep l := by unfold Ru.levels; simp
theorem Ru.levels_get {l : List Ru} {j : Nat} (hj : j < (Ru.levels l).length) : (Ru.levels l)[j] = Ru.levelOf l j := by
  have hj' : j < Ru.deep l := by rw [← Ru.levels_len]; exact hj
  have e1 : (Ru.levels l)[j]? = some (Ru.levelOf l j) := by
    unfold Ru.levels
    rw [List.getElem?_map, List.getElem?_range hj']
    rfl
  exact (List.getElem?_eq_some_iff.1 e1).2
def Ru.manyTo (l : List Ru) (k : Nat) : Nat := ((List.range k).map fun j => (Ru.levelOf l j).length).sum
theorem Ru.manyTo_succ (l : List Ru) (k : Nat) : Ru.manyTo l (k + 1) = Ru.manyTo l k + (Ru.levelOf l k).length := by
  unfold Ru.manyTo
  rw [List.range_succ, List.map_append, List.sum_append]
  simp
theorem Ru.manyTo_le (l : List Ru) (k : Nat) : Ru.manyTo l k ≤ l.length := by
  unfold Ru.manyTo
  rw [Ru.count_levels]
  have := List.length_filter_le (fun i => decide (Ru.lev l i < k)) (List.range l.length)
  simpa using this
theorem Ru.manyTo_all (l : List Ru) : Ru.manyTo l (Ru.deep l) = l.length := Ru.levels_all l
set_option maxRecDepth 100000 in
set_option maxHeartbeats 16000000 in
theorem PickLevels_calls {es : Nat → Addr} {At : (Nat → Prop) → World → Value → Nat → Cf.Ens → Prop} {BAt : (Nat → Prop) → World → Value → Value → Bf.Bd → Prop} (HB : Builds es Af.actO At BAt) {W : World} (hW : BuildW W es) (hE : E12 W es) (vl : Value) (l : List Ru) (hR : RRow W vl l) :
    Calls Tryz.prog 12 #[vl] W fun e w' => e = .returned (.bool true) ∧ Below W.heap.size W w' := by
  have HPi := hid1 (picked_calls HB hW)
  have HW := hid1 (BuildB.of hW)
  have HE := hid1 hE
  have HLr := hid1 fun V (g : Below W.heap.size W V) => LongRules_any (w := V) vl l 16 (by omega) (hR.below g)
  have HOr := hid1 fun V (g : Below W.heap.size W V) (hl : l.length ≤ 1000) (h12 : ∀ x ∈ l, x.ins.length ≤ 12) => OwnRules_calls (w := V) vl l hl (hR.below g) h12
  have HSf := hid1 fun V (g : Below W.heap.size W V) (hl : l.length ≤ 1000) (hS : ∀ x ∈ l, x.Small) => SheetFault_calls (w := V) vl l (hR.below g) hl hS
  have HRr := hid1 hR
  obtain ⟨pl, cl, rfl, -⟩ := hR
  clear HB hW hE
  go_enter Tryz.func12, Tryz.ntmps12
  go_wp2_with fail
  refine HPi.out.mono ?_
  rintro e w1 ⟨rfl, g1⟩
  have HL1 := hid1 (HLr.out w1 g1)
  clear HPi HLr
  go_wp2_with fail
  refine HL1.out.mono ?_
  rintro e w2 ⟨r, rfl, rfl, hr⟩
  clear HL1
  rcases hr with rfl | ⟨rfl, hlen, hsm⟩
  · clear HOr HSf HRr
    go_wp2
    go_ret
    exact ⟨rfl, g1⟩
  have HSm := hid1 hsm
  have hl41 : l.length ≤ 41 := by omega
  have HO2 := hid1 (HOr.out w2 g1 (by omega) fun x hx => (hsm x hx).many)
  clear hsm hlen
  go_wp2_with fail
  refine HO2.out.mono ?_
  rintro e w3 ⟨v3, rfl, hR3, g3⟩
  have G3 := below_then g1 g3
  have HLv := hid1 (pLevels_calls (HW.out.below G3).w.g v3 l hR3 (by omega) HSm.out)
  obtain ⟨p3, c3, rfl, -⟩ := hR3
  clear HO2 g3
  go_wp2_with fail
  refine HLv.out.mono ?_
  rintro e w4 ⟨u4, ev4, rfl, g4, hT4⟩
  have G4 := below_then G3 g4
  have HT4 := hid1 hT4
  have HO4 := hid1 (HOr.out w4 G4 (by omega) fun x hx => (HSm.out x hx).many)
  obtain ⟨p4, n4, c4, rfl, -⟩ := hT4.deep
  clear HLv g4 HOr hT4
  go_wp2_with fail
  refine HO4.out.mono ?_
  rintro e w5 ⟨v5, rfl, hR5, g5⟩
  have G5 := below_then G4 g5
  have HDp := hid1 (pDeep_calls (HW.out.below G5).w.g v5 l hR5 (by omega) HSm.out)
  obtain ⟨p5, c5, rfl, -⟩ := hR5
  clear HO4
  go_wp2_with fail
  refine HDp.out.mono ?_
  rintro e w6 ⟨n6, ev6, rfl, g6, hT6⟩
  have G6 := below_then G5 g6
  have HT6 := hid1 hT6
  have g46 := below_then g5 g6
  have HS6 := hid1 (HSf.out w6 G6 (by omega) HSm.out)
  clear HDp g6 g5 hT6 HSf
  go_wp2_with fail
  refine HS6.out.mono ?_
  rintro e w7 ⟨rfl, g7⟩
  have G7 := below_then G6 g7
  have g47 := below_then g46 g7
  clear HS6
  by_cases hf : (Ru.fault l).1 = 0
  · have h40 := (Ru.fault_ok hf).1
    have zl : (l.length : Int) ≤ 40 := by omega
    have HOk : Hid (Ru.order l allB1 = none → (ev4 = erOf es 9 ∧ n4 = 0) ∧ ev6 = erOf es 9 ∧ n6 = 0) := hid1 fun h => by
      refine ⟨?_, ?_⟩
      · rcases HT4.out with ⟨h1, _⟩ | ⟨_, _, h2, h3⟩ | ⟨_, ⟨o, h2⟩, _⟩
        · exact absurd hf h1
        · simp only [Value.slice.injEq] at h3
          exact ⟨h2, h3.2.1⟩
        · rw [h] at h2; cases h2
      · rcases HT6.out with ⟨h1, _⟩ | ⟨_, _, h2, h3⟩ | ⟨_, ⟨o, h2⟩, _⟩
        · exact absurd hf h1
        · exact ⟨h2, h3⟩
        · rw [h] at h2; cases h2
    have HYes : Hid (∀ o, Ru.order l allB1 = some o → (ev4 = .nilIface ∧ LvRow w4 (.slice p4 n4 c4) (Ru.levels l)) ∧ ev6 = .nilIface ∧ n6 = Ru.deep l) := hid1 fun o h => by
      refine ⟨?_, ?_⟩
      · rcases HT4.out with ⟨h1, _⟩ | ⟨_, h2, _⟩ | ⟨_, _, h2, h3⟩
        · exact absurd hf h1
        · rw [h] at h2; cases h2
        · exact ⟨h2, h3⟩
      · rcases HT6.out with ⟨h1, _⟩ | ⟨_, h2, _⟩ | ⟨_, _, h2, h3⟩
        · exact absurd hf h1
        · rw [h] at h2; cases h2
        · exact ⟨h2, h3⟩
    generalize hfl : Ru.fault l = f at *
    obtain ⟨fc, fa⟩ := f
    simp only at hf
    subst hf
    clear HT4 HT6 hfl
    obtain ⟨w8, h8⟩ : ∃ w8, w8 = w7.alloc (.cells #[.int .i64 ((0 : Nat) : Int), .int .i64 fa] 75) := ⟨_, rfl⟩
    have g8 : Below w7.heap.size w7 w8 := by rw [h8]; exact (Below.refl _ w7).alloc (Nat.le_refl _) _
    have G8 := below_then G7 g8
    have r8 : w8.heap[w7.heap.size]? = some (.cells #[.int .i64 ((0 : Nat) : Int), .int .i64 fa] 75) := by rw [h8]; exact row_new _ _
    have HR8 := hid1 r8
    have HAl := hid1 (AllOf_calls l.length (by omega) w8)
    rw [h8] at HAl
    go_wp2_with fail
    refine HAl.out.mono ?_
    rintro e w9 ⟨g9', rfl, hOw, g9⟩
    rw [← h8] at g9 hOw
    have G9 := below_then G8 g9
    have HOo := hid1 (OrderOf_calls (w := w9) _ l (HRr.out.below G9) (by omega) (fun x hx => by have := (HSm.out x hx).many; omega) g9' l.length allB1 (fun j hj => hOw.cell hj))
    clear HAl hOw h8 r8
    go_wp2_with fail
    refine HOo.out.mono ?_
    rintro e w10 ⟨u10, b10, rfl, g10, hT10⟩
    have G10 := below_then G9 g10
    have g810 := below_then g9 g10
    have r10 := row_below HR8.out g810
    have d0 := cell_of_row (j := 0) r10 rfl
    have d1 := cell_of_row (j := 1) r10 rfl
    clear HOo
    rcases hT10 with ⟨rfl, rfl, hno⟩ | ⟨o, rfl, hyes, hu10, -, -⟩
    · obtain ⟨⟨rfl, rfl⟩, rfl, rfl⟩ := HOk.out hno
      have HBr := hid1 (rBare_calls w10 9)
      have HC1 := hid1 fun V (gV : Below W.heap.size W V) => faulted3_calls (w := V) (HE.out.below gV) (erOf es 9) (9, -1) (.inl ⟨rfl, rfl, by omega⟩)
      clear HOk HYes hno
      go_wp2_with fail
      refine HBr.out.mono ?_
      rintro e w11 ⟨rfl, g11⟩
      have r11 := row_below r10 g11
      have f0 : w11.frozen? ⟨w7.heap.size, 0, none⟩ = false := frozen_of_row w11 w7.heap.size 0 _ _ r11
      have f1 : w11.frozen? ⟨w7.heap.size, 1, none⟩ = false := frozen_of_row w11 w7.heap.size 1 _ _ r11
      have e0 := cell_of_row (j := 0) r11 rfl
      have e1 := cell_of_row (j := 1) r11 rfl
      have G11 := below_then G10 g11
      clear HBr d0 d1
      go_wp2_with fail
      have hzB : W.heap.size ≤ w7.heap.size := G7.size
      have GS : Below W.heap.size W ((w11.setCell ⟨w7.heap.size, 0, none⟩ (.int .i64 9)).setCell ⟨w7.heap.size, 1, none⟩ (.int .i64 (-1))) := below_setCell (below_setCell G11 hzB _) hzB _
      have rS : ((w11.setCell ⟨w7.heap.size, 0, none⟩ (.int .i64 9)).setCell ⟨w7.heap.size, 1, none⟩ (.int .i64 (-1))).heap[w7.heap.size]? = some (.cells #[.int .i64 9, .int .i64 (-1)] 75) := by
        have q1 := heap_setCell_same w11 w7.heap.size 0 _ _ (.int .i64 9) r11
        exact heap_setCell_same _ w7.heap.size 1 _ _ (.int .i64 (-1)) q1
      generalize (w11.setCell ⟨w7.heap.size, 0, none⟩ (.int .i64 9)).setCell ⟨w7.heap.size, 1, none⟩ (.int .i64 (-1)) = wS at *
      refine (HC1.out wS GS).mono ?_
      rintro e w12 ⟨rfl, g12⟩
      have G12 := below_then GS g12
      have r12 := row_below rS g12
      have x0 := cell_of_row (j := 0) r12 rfl
      have x1 := cell_of_row (j := 1) r12 rfl
      clear e0 e1 f0 f1 r11 rS
      go_wp2_with fail
      refine (HC1.out w12 G12).mono ?_
      rintro e w13 ⟨rfl, g13⟩
      have G13 := below_then G12 g13
      clear HC1
      go_wp2
      go_ret
      exact ⟨rfl, G13⟩
    · obtain ⟨⟨rfl, hLv⟩, rfl, rfl⟩ := HYes.out o hyes
      have hO : Ru.Ordd l o := Ru.Ordd.of hyes fun _ _ => rfl
      have HLv := hid1 (hLv.below (below_then (below_then g47 g8) g810))
      obtain rfl : n4 = Ru.deep l := by
        obtain ⟨p', c', e, -⟩ := hLv
        simp only [Value.slice.injEq] at e
        rw [e.2.1, Ru.levels_len]
      have HEa := hid1 fun k (hk : k < Ru.deep l) => Ru.deep_each hO.rank hO.bound hk
      have hdl : Ru.deep l ≤ 41 := by
        by_cases e : Ru.deepTo l l.length = 0
        · unfold Ru.deep; omega
        · obtain ⟨i, hi, e2⟩ := Ru.deepTo_some e
          have := hO.lev_le i
          unfold Ru.deep
          omega
      have HLo := hid1 fun i (hi : i < l.length) V (gV : Below W.heap.size W V) => LevelOf_calls _ l HRr.out h40 HSm.out hO _ i rfl hi V gV
      obtain ⟨p10, c10, rfl, -⟩ := hu10
      have zd : (Ru.deep l : Int) ≤ 41 := by omega
      clear HOk HYes hyes hLv hO HRr
      go_wp2
      go_loopw [11, 12] (fun mv kv wr => ∃ k : Nat, k ≤ Ru.deep l ∧ kv = .int .i64 k ∧ mv = .int .i64 (Ru.manyTo l k : Nat) ∧ Below w10.heap.size w10 wr) (fun _ kv _ => Ru.deep l - (intOf kv).toNat)
      case atStart => exact ⟨0, Nat.zero_le _, rfl, rfl, Below.refl _ _⟩
      case round =>
        obtain ⟨k, hk, rfl, rfl, hB⟩ := hrel
        have k0 : (0 : Int) ≤ (k : Int) := by omega
        by_cases hlt : k < Ru.deep l
        · have k1 : (k : Int) < (Ru.deep l : Int) := by omega
          have hlt' : k < (Ru.levels l).length := by rw [Ru.levels_len]; exact hlt
          obtain ⟨g1', o1', rfl, hg1, hc1⟩ := HLv.out.at (by intro e; rw [e] at hlt'; simp at hlt')
          obtain ⟨uk, hck, hrk⟩ := hc1 k hlt'
          rw [Ru.levels_get] at hrk
          have HCk := hid1 fun V (gV : Below w10.heap.size w10 V) => cell_below' hck gV
          have HRk := hid1 fun V (gV : Below w10.heap.size w10 V) => hrk.below gV
          have hne : Ru.levelOf l k ≠ [] := by
            obtain ⟨j, hj, e⟩ := HEa.out k hlt
            exact List.ne_nil_of_mem (Ru.levelOf_mem.2 ⟨hj, e⟩)
          have hpos := List.length_pos_iff.2 hne
          obtain ⟨pk, ck, rfl, -⟩ := hrk
          have HMs := hid1 (Ru.manyTo_succ l k)
          have hms : Ru.manyTo l k + (Ru.levelOf l k).length ≤ 40 := by
            rw [← HMs.out]
            exact Nat.le_trans (Ru.manyTo_le l (k + 1)) h40
          have HIn := hid1 fun i (hi : i < (Ru.levelOf l k).length) => Ru.levelOf_mem.1 (List.getElem_mem hi)
          have HRi := hid1 (Ru.levelOf_rises l k)
          have d0 := HCk.out wr hB
          have HB0 := hid1 hB
          clear hck hc1 HLv HEa
          generalize hL : Ru.levelOf l k = L at *
          generalize hM : Ru.manyTo l k = M at *
          clear hL hM
          have zp : (0 : Int) < (L.length : Int) := by omega
          have zb : ((L.length : Int) == 0) = false := beq_false_of_ne (by omega)
          have zL : (L.length : Int) ≤ 40 := by omega
          have zM : (M : Int) + (L.length : Int) ≤ 40 := by omega
          have zM0 : (0 : Int) ≤ (M : Int) := by omega
          generalize wr = w14 at *
          go_wp2
          go_loopw [11, 13] (fun mv iv wr => ∃ i : Nat, i ≤ L.length ∧ iv = .int .i64 i ∧ mv = .int .i64 ((M + i : Nat) : Int) ∧ Below w10.heap.size w10 wr) (fun _ iv _ => L.length - (intOf iv).toNat)
          case atStart => exact ⟨0, Nat.zero_le _, rfl, rfl, HB0.out⟩
          case round =>
            clear HB0 d0
            obtain ⟨i, hi, rfl, rfl, hB⟩ := hrel
            have i0 : (0 : Int) ≤ (i : Int) := by omega
            have d0 := HCk.out wr hB
            by_cases hil : i < L.length
            · have i1 : (i : Int) < (L.length : Int) := by omega
              obtain ⟨qk, ck', ek, hink⟩ := HRk.out wr hB
              obtain ⟨rfl, rfl⟩ : pk = qk ∧ ck = ck' := by simpa using ek
              obtain ⟨gk, ok', rfl, hgk, hck⟩ := hink hne
              have x0 := hck i hil
              have x1 : 0 < i → wr.cell? ⟨gk, ok' + (i - 1), none⟩ = some (nv (L[i - 1]'(by omega))) := fun _ => hck (i - 1) (by omega)
              obtain ⟨hjl, hjv⟩ := HIn.out i hil
              have HLj := hid1 (HLo.out L[i] hjl wr (below_then G10 hB))
              rw [hjv] at HLj
              have hris : ∀ h : 0 < i, L[i - 1]'(by omega) < L[i] := fun h => List.pairwise_iff_getElem.1 HRi.out (i - 1) i (by omega) hil (by omega)
              clear hck hink ek HRk
              by_cases hi0 : 0 < i
              · have x1' := x1 hi0
                have hr' := hris hi0
                have zi : (0 : Int) < (i : Int) := by omega
                have ei : ((i : Int) - 1) = ((i - 1 : Nat) : Int) := by omega
                have ei0 : (0 : Int) ≤ ((i - 1 : Nat) : Int) := by omega
                have ei1 : ((i - 1 : Nat) : Int) < (L.length : Int) := by omega
                clear x1 hris
                generalize L[i - 1]'(by omega) = jp at *
                generalize L[i] = j at *
                have j0 : (0 : Int) ≤ (j : Int) := by omega
                have j1 : (j : Int) < (l.length : Int) := by omega
                have j2 : (jp : Int) < (j : Int) := by omega
                clear HIn HRi
                go_wp2_with fail
                refine HLj.out.mono ?_
                rintro e w15 ⟨rfl, g15⟩
                have hB15 := below_then hB g15
                clear HLj
                go_wp2
                exact ⟨⟨i + 1, by omega, by go_num, by go_num, hB15⟩, by simp [intOf]; omega⟩
              · have zi : (i : Int) ≤ 0 := by omega
                clear x1 hris
                generalize L[i] = j at *
                have j0 : (0 : Int) ≤ (j : Int) := by omega
                have j1 : (j : Int) < (l.length : Int) := by omega
                clear HIn HRi
                go_wp2_with fail
                refine HLj.out.mono ?_
                rintro e w15 ⟨rfl, g15⟩
                have hB15 := below_then hB g15
                clear HLj
                go_wp2
                exact ⟨⟨i + 1, by omega, by go_num, by go_num, hB15⟩, by simp [intOf]; omega⟩
            · have i1 : (L.length : Int) ≤ (i : Int) := by omega
              obtain rfl : i = L.length := by omega
              clear HRk HIn HRi HLo HCk
              go_wp2
              exact ⟨⟨k + 1, by omega, by go_num, by rw [HMs.out], hB⟩, by simp [intOf]; omega⟩
        · have k1 : (Ru.deep l : Int) ≤ (k : Int) := by omega
          obtain rfl : k = Ru.deep l := by omega
          have G14 := below_then G10 hB
          rw [Ru.manyTo_all]
          clear HLv HEa HLo
          go_wp2
          go_ret
          exact ⟨rfl, G14⟩
  · have HFa4 : Hid (n4 = 0 ∧ ∀ V, Below w4.heap.size w4 V → ErrV V es ev4 (Ru.fault l)) := hid1 (by
      rcases HT4.out with ⟨h1, h2, h3⟩ | ⟨h1, _⟩ | ⟨h1, _⟩
      · simp only [Value.slice.injEq] at h3
        exact ⟨h3.2.1, fun V hV => h2.below hV⟩
      · exact absurd h1 hf
      · exact absurd h1 hf)
    have HFa6 : Hid (n6 = 0 ∧ ∀ V, Below w6.heap.size w6 V → ErrV V es ev6 (Ru.fault l)) := hid1 (by
      rcases HT6.out with ⟨h1, h2, h3⟩ | ⟨h1, _⟩ | ⟨h1, _⟩
      · exact ⟨h3, fun V hV => h2.below hV⟩
      · exact absurd h1 hf
      · exact absurd h1 hf)
    obtain ⟨rfl, hE4⟩ := HFa4.out
    obtain ⟨rfl, hE6⟩ := HFa6.out
    have H4 := hid1 hE4
    have H6 := hid1 hE6
    have zf : (0 : Int) < ((Ru.fault l).1 : Nat) := by omega
    have zf0 : (((Ru.fault l).1 : Nat) : Int) ≠ 0 := by omega
    generalize hfl : Ru.fault l = f at *
    clear HT4 HT6 HFa4 HFa6 hE4 hE6 hf hfl
    obtain ⟨fc, fa⟩ := f
    simp only at zf zf0
    obtain ⟨w8, h8⟩ : ∃ w8, w8 = w7.alloc (.cells #[.int .i64 (fc : Nat), .int .i64 fa] 75) := ⟨_, rfl⟩
    have g8 : Below w7.heap.size w7 w8 := by rw [h8]; exact (Below.refl _ w7).alloc (Nat.le_refl _) _
    have G8 := below_then G7 g8
    have HC1 := hid1 (faulted3_calls (HE.out.below G8) ev4 (fc, fa) (H4.out w8 (below_then g47 g8)))
    have r8 : w8.heap[w7.heap.size]? = some (.cells #[.int .i64 (fc : Nat), .int .i64 fa] 75) := by rw [h8]; exact row_new _ _
    have HR8 := hid1 r8
    rw [h8] at HC1
    go_wp2_with fail
    refine HC1.out.mono ?_
    rintro e w9 ⟨rfl, g9⟩
    rw [← h8] at g9
    have G9 := below_then G8 g9
    have r9 := row_below HR8.out g9
    have d0 := cell_of_row (j := 0) r9 rfl
    have d1 := cell_of_row (j := 1) r9 rfl
    have HC2 := hid1 (faulted3_calls (HE.out.below G9) ev6 (fc, fa) (H6.out w9 (below_then g7 (below_then g8 g9))))
    clear HC1 r8 r9 h8
    go_wp2_with fail
    refine HC2.out.mono ?_
    rintro e w10 ⟨rfl, g10⟩
    have G10 := below_then G9 g10
    clear HC2
    go_wp2
    go_ret
    exact ⟨rfl, G10⟩
end Go.Proofs.YtbgkfmodbofalaaGreatDoor
