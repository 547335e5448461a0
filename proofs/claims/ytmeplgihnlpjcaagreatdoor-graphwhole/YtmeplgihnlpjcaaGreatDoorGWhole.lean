/- The law GraphWhole: the walk, over what package graph's functions tell. -/
import Derived.Test.YtmeplgihnlpjcaaGreatDoorMG16
import Derived.Test.YtmeplgihnlpjcaaGreatDoorMG3
import Derived.Test.YtmeplgihnlpjcaaGreatDoorRuleO
import Derived.BigQuiet
namespace Go.Proofs.YtmeplgihnlpjcaaGreatDoor
open Go.RowKit Go.Shelf Go.Lib

theorem filter_all {n : Nat} {f : Nat → Bool} (h : ∀ k, k < n → f k = true) : (List.range n).filter f = List.range n :=
  List.filter_eq_self.2 fun k hk => h k (List.mem_range.1 hk)
theorem base_all (l : List Ru) (k : Nat) (hk : k < l.length) : Ru.base l (l.map Ru.out) k = true := by
  rw [Ru.base_eq hk]
  exact decide_eq_true (List.mem_map.2 ⟨l[k], List.getElem_mem hk, rfl⟩)
theorem made_all (l : List Ru) : ∀ j (hj : j < (l.map Ru.out).length), ∃ x ∈ l, x.out = (l.map Ru.out)[j] := fun j hj =>
  ⟨l[j]'(by simpa using hj), List.getElem_mem _, by simp⟩

/-- All of them. -/
theorem needs_all {es : Nat → Addr} {l : List Ru} {w : World} {u ev : Value} (h0 : (Ru.fault l).1 = 0) (h : NeedsTells es l (l.map Ru.out) w u ev) : ev = .nilIface ∧ NIRow w u (List.range l.length) := by
  rcases h with ⟨hf, _⟩ | ⟨_, k, hk, hno, _⟩ | ⟨_, _, he, f, hf, hr⟩
  · exact absurd h0 hf
  · obtain ⟨x, hx, e⟩ := made_all l k hk
    exact absurd e (hno x hx)
  · rw [filter_all fun k hk => hf.start k (base_all l k hk)] at hr
    exact ⟨he, hr⟩
/-- Those that one needs. -/
theorem needs_one {es : Nat → Addr} {l : List Ru} {m : Nat} (hm : m < l.length) {w : World} {u ev : Value} (h0 : (Ru.fault l).1 = 0) (h : NeedsTells es l [l[m].out] w u ev) :
    ev = .nilIface ∧ ∃ f : Nat → Bool, f m = true ∧ (∀ i k, f i = true → Ru.needs l i k = true → f k = true) ∧ NIRow w u ((List.range l.length).filter f) := by
  rcases h with ⟨hf, _⟩ | ⟨_, k, hk, hno, _⟩ | ⟨_, _, he, f, hf, hr⟩
  · exact absurd h0 hf
  · obtain rfl : k = 0 := by simp at hk; omega
    exact absurd rfl (hno l[m] (List.getElem_mem hm))
  · exact ⟨he, f, hf.start m (by rw [Ru.base_eq hm]; simp), hf.closed, hr⟩
/-- Leaves rise, and none is made. -/
theorem leaf_rise {l : List Ru} {r : List (List UInt8)} (h : Ru.Leaves l r) (j : Nat) (hj : j + 1 < r.length) : Op.bytesLess r[j + 1] r[j] = false ∧ (r[j + 1] == r[j]) = false := by
  have h1 := List.pairwise_iff_getElem.1 h.rises j (j + 1) (by omega) hj (by omega)
  have h2 := List.pairwise_iff_getElem.1 (List.nodup_iff_pairwise_ne.1 h.once) j (j + 1) (by omega) hj (by omega)
  constructor
  · rw [Tf.less_before]
    cases hb : bytesBefore r[j + 1] r[j] with
    | false => rfl
    | true => exact absurd ((Tf.before_lt _ _).1 hb) (List.not_lt.2 h1)
  · exact beq_eq_false_iff_ne.2 fun e => h2 e.symm
theorem flat_len : ∀ (l : List Ru), (∀ x ∈ l, x.ins.length ≤ 12) → (l.flatMap Ru.ins).length ≤ 12 * l.length
  | [], _ => by simp
  | x :: r, h => by
    have ih := flat_len r fun y hy => h y (List.mem_cons_of_mem _ hy)
    have hx := h x (by simp)
    rw [List.flatMap_cons, List.length_append, List.length_cons]
    omega
theorem leaf_len {l : List Ru} {r : List (List UInt8)} (h : Ru.Leaves l r) (h12 : ∀ x ∈ l, x.ins.length ≤ 12) : r.length ≤ 12 * l.length :=
  Nat.le_trans (Ru.nodup_sub h.once fun x hx => by
    obtain ⟨y, hy, hxy⟩ := ((h.mem x).1 hx).1
    exact List.mem_flatMap.2 ⟨y, hy, hxy⟩) (flat_len l h12)
theorem leaf_out {l : List Ru} {r : List (List UInt8)} (h : Ru.Leaves l r) (j : Nat) (hj : j < r.length) : r[j] ∉ l.map Ru.out := fun hm => by
  obtain ⟨x, hx, e⟩ := List.mem_map.1 hm
  exact ((h.mem r[j]).1 (List.getElem_mem hj)).2 x hx e

set_option maxRecDepth 100000 in
set_option maxHeartbeats 16000000 in
theorem GraphWhole_calls {w : World} {es : Nat → Addr} (hW : GraphW w es) (hNo : w.cell? ⟨0, 0, none⟩ = some (erOf es 6)) (HG : Graphs es) (v : Value) (l : List Ru) (hrow : RRow w v l) (one : Int) :
    Calls Tryz.prog 5 #[v, .int .i64 one] w fun e w' => e = .returned (.bool true) ∧ Below w.heap.size w w' := by
  have HA := hid1 (ahead_calls hW HG)
  have HL := hid1 fun W (g : Below w.heap.size w W) => LongRules_any v l 20 (by omega) (hrow.below g)
  have HO := hid1 fun W (g : Below w.heap.size w W) (hl : l.length ≤ 1000) (hS : ∀ x ∈ l, x.Small) => OwnRules_calls v l hl (hrow.below g) fun x hx => (hS x hx).many
  have HNe := hid1 fun W (g : Below w.heap.size w W) u (hu : RRow W u l) (hl : l.length ≤ 1000) (hS : ∀ x ∈ l, x.Small) vo outs (ho : XRow W vo outs) (h1 : outs.length ≤ 1000) (h2 : ∀ x ∈ outs, x.length ≤ 1000) => HG.needs W u l vo outs (hW.s.below g) (cell_below' hNo g) hu hl hS ho h1 h2
  have HLe := hid1 fun W (g : Below w.heap.size w W) u (hu : RRow W u l) (hl : l.length ≤ 1000) (hS : ∀ x ∈ l, x.Small) => HG.leaves W u l (hW.s.below g) hu hl hS
  have HN := hid1 fun W (g : Below w.heap.size w W) (hS : ∀ x ∈ l, x.Small) i k (hi : i < l.length) (hk : k < l.length) => NeedsRule_calls v l (hrow.below g) (fun x hx => Nat.le_trans (hS x hx).many (by omega)) i k hi hk
  obtain ⟨i0, hi, hz0, hz1, hz2⟩ := info_parts Tryz.infoBool
  obtain ⟨iS, hs, hs0, hs1, hs2⟩ := info_parts Tryz.infoStr
  obtain ⟨p, cap, rfl, -, -, hin⟩ := hrow
  have HI := hid1 hin
  clear hW HG hin hNo
  go_enter Tryz.func5, Tryz.ntmps5
  go_wp2_with fail
  refine HA.out.mono ?_
  rintro e w1 ⟨rfl, g1⟩
  clear HA
  go_wp2_with fail
  refine (HL.out _ g1).mono ?_
  rintro e w1' ⟨r, rfl, rfl, rfl | ⟨rfl, hlen, hS⟩⟩
  · go_wp2
    go_ret
    exact ⟨rfl, g1⟩
  have hl : l.length ≤ 41 := by omega
  have zl : (l.length : Int) ≤ 41 := by omega
  have HS := hid1 hS
  clear HL hlen hS
  by_cases ho1 : one < 0
  · go_wp2
    go_ret
    exact ⟨rfl, g1⟩
  by_cases ho2 : (l.length : Int) ≤ one
  · have o1 : 0 ≤ one := by omega
    go_wp2
    go_ret
    exact ⟨rfl, g1⟩
  obtain ⟨m, rfl⟩ : ∃ m : Nat, one = m := ⟨one.toNat, by omega⟩
  have hm : m < l.length := by omega
  have m0 : (0 : Int) ≤ (m : Int) := by omega
  have m1 : (m : Int) < (l.length : Int) := by omega
  have m2 : decide ((m : Int) < 0) = false := decide_eq_false (by omega)
  have m3 : decide (l.length ≤ m) = false := decide_eq_false (by omega)
  clear ho1 ho2
  obtain ⟨g', o, rfl, hg, hcur⟩ := HI.out (by intro e; rw [e] at hm; simp at hm)
  have HCut := hid1 fun W (g : Below w.heap.size w W) j (hj : j < l.length) => cell_below' (hcur j hj).1 g
  have hml1 : ∀ k, k ≤ 1000 → k ≤ maxLen := fun k hk => by unfold maxLen; omega
  clear HI hcur
  generalize w1' = w1 at *
  have n1 : World.ownsRow w1 w1.heap.size 9 1 (.slice none 0 0) 0 (([] : List (List UInt8)).map sv) := World.ownsRow_nil _ _ _ _
  go_wp2
  go_loopw [6, 7] (fun ov iv wr => ∃ i : Nat, i ≤ l.length ∧ iv = .int .i64 i ∧ wr.ownsRow w1.heap.size 9 1 ov i (((l.take i).map Ru.out).map sv) ∧ Below w1.heap.size w1 wr) (fun _ iv _ => l.length - (intOf iv).toNat)
  case atStart => exact ⟨0, Nat.zero_le _, rfl, by simpa using n1, Below.refl _ _⟩
  case round =>
    obtain ⟨i, hil, rfl, hrow, B⟩ := hrel
    have c0 : (0 : Int) ≤ (i : Int) := by omega
    by_cases hilt : i < l.length
    · have c1 : (i : Int) < (l.length : Int) := by omega
      have d0 := HCut.out wr (below_then g1 B) i hilt
      have HT : Hid (((l.take (i + 1)).map Ru.out).map sv = ((l.take i).map Ru.out).map sv ++ [sv l[i].out]) := hid1 (by rw [List.take_succ_eq_append_getElem hilt, List.map_append, List.map_append]; rfl)
      have hml := hml1 (i + 1) (by omega)
      have hbz : w1.heap.size ≤ wr.heap.size := B.size
      generalize l[i].out = y at *
      go_wp2_with (at_builtin; refine wpList_append_own _ rfl _ _ 34 rfl w1.heap.size 9 iS (.string ⟨#[]⟩) 1 16 Tryz.underlying34 hs hs0 hs1 hs2 rfl (by decide) _ _ _ rfl (hrow.alloc _) ⟨wr.heap.size, 0, none⟩ 1 1 [.string (ba y)] rfl rfl (cell_one_new _ _ _) (by simp [Value.oneCell']) hml (by omega) (by simp; omega) ?_; intro v' w2 hown' hgrow _)
      refine ⟨⟨i + 1, by omega, by go_num, ?_, below_appended B hbz hrow hgrow⟩, by simp [intOf]; omega⟩
      rw [HT.out]
      exact hown'
    · have c1 : (l.length : Int) ≤ (i : Int) := by omega
      obtain rfl : i = l.length := by omega
      have hX : XRow wr u6 (l.map Ru.out) := XRow.of_owns (n := l.length) (by
        have := hrow
        rwa [List.take_length] at this)
      have HX := hid1 hX
      have g2 := below_then g1 B
      have HSm : Hid ((l.map Ru.out).length ≤ 1000 ∧ ∀ x ∈ l.map Ru.out, x.length ≤ 1000) := hid1 ⟨by simp; omega, fun x hx => by
        obtain ⟨y, hy, rfl⟩ := List.mem_map.1 hx
        exact Nat.le_trans (HS.out y hy).out (by omega)⟩
      clear hrow B n1 hX
      generalize wr = w2 at *
      go_wp2_with fail
      refine (HO.out _ g2 (by omega) HS.out).mono ?_
      rintro e w3 ⟨v3, rfl, hr3, h3⟩
      have g3 := below_then g2 h3
      have HR3 := hid1 hr3
      have HX3 := hid1 (HX.out.below h3)
      clear hr3 h3 HX
      go_wp2_with fail
      refine (HNe.out _ g3 v3 HR3.out (by omega) HS.out u6 _ HX3.out HSm.out.1 HSm.out.2).mono ?_
      rintro e w4 ⟨u4, e4, rfl, h4, ht4⟩
      have g4 := below_then g3 h4
      have HX4 := hid1 (HX3.out.below h4)
      clear h4 HR3 HX3
      by_cases hf : (Ru.fault l).1 = 0
      · obtain ⟨rfl, hn4⟩ := needs_all hf ht4
        have HN1 := hid1 fun W u ev h => needs_one (es := es) (w := W) (u := u) (ev := ev) hm hf h
        have HF := hid1 hf
        have HAll := hid1 hn4
        obtain ⟨pa, ca, rfl, -⟩ := hn4
        clear ht4 hf
        simp only [List.length_range] at HAll ⊢
        have d0 := HCut.out w4 g4 m hm
        have hyl : (l[m].out).length ≤ 1000 := Nat.le_trans (HS.out _ (List.getElem_mem hm)).out (by omega)
        generalize hy : l[m].out = y at *
        clear hy
        have HNX : Hid (∀ (W : World) (vv : Value), Below w.heap.size w W → RRow W vv l → ∀ b : Nat, W.cell? ⟨b, 0, none⟩ = some (.string (ba y)) → Calls Tryz.prog 13 #[vv, .slice (some ⟨b, 0, none⟩) 1 1] W fun e w' => ∃ u, e = .returned (.tuple #[u, .nilIface]) ∧ Below W.heap.size W w' ∧ ∃ f : Nat → Bool, f m = true ∧ (∀ i k, f i = true → Ru.needs l i k = true → f k = true) ∧ NIRow w' u ((List.range l.length).filter f)) := hid1 fun W vv g hr b hb =>
          (HNe.out W g vv hr (by omega) HS.out (.slice (some ⟨b, 0, none⟩) 1 1) [y] ⟨_, 1, rfl, Nat.le_refl _, fun h => (by cases h), fun _ => ⟨b, 0, rfl, lt_of_cell hb, fun j hj => by
            obtain rfl : j = 0 := by simp at hj; omega
            exact hb⟩⟩ (by simp) (fun x hx => by rw [List.mem_singleton.1 hx]; exact hyl)).mono fun e w' ⟨u, ev, h1, h2, h3⟩ => by
              obtain ⟨rfl, h4⟩ := HN1.out _ _ _ h3
              exact ⟨u, h1, h2, h4⟩
        clear HNe HN1
        go_wp2
        go_region_held3 (fun w' => w'.cell? ⟨g', o + m * 4, none⟩ = some (.string (ba y))) (first | go_keep | fail)
          (first
            | (go_at_call 9; refine (HO.out _ (by exact g4.drew) (by omega) HS.out).mono ?_; rintro e w5 ⟨v5, rfl, hr5, h5⟩; have g5 := below_then g4.drew h5; have e0 := cell_below' (show w4.drew.cell? _ = _ from d0) h5)
            | (go_at_call 9; refine (HO.out _ (by exact g4.drew.alloc g4.drew.size _) (by omega) HS.out).mono ?_; rintro e w5 ⟨v5, rfl, hr5, h5⟩; have g5 := below_then (g4.drew.alloc g4.drew.size _) h5; have k5 := (h5.cell (p := ⟨w4.heap.size, 0, none⟩) (by simp)).trans (by simp; rfl); have e0 := cell_below' (cell_below' (show w4.drew.cell? _ = _ from d0) ((Below.refl _ w4.drew).alloc (Nat.le_refl _) _)) h5)
            | (go_at_call 13; refine (HNX.out _ _ (by exact g5.alloc g5.size _) (by exact hr5.below ((Below.refl _ w5).alloc (Nat.le_refl _) _)) _ (by simp)).mono ?_; rintro e w6 ⟨u6', rfl, h6, f, hfm, hfc, hfr⟩; have g6 := below_then (g5.alloc g5.size _) h6; have e6 := cell_below' (cell_below' e0 ((Below.refl _ w5).alloc (Nat.le_refl _) _)) h6; have B46 := below_then ((below_then (Below.refl w4.heap.size w4).drew h5).alloc (below_then (Below.refl w4.heap.size w4).drew h5).size _) h6)
            | (go_at_call 13; refine (HNX.out _ _ g5 hr5 _ k5).mono ?_; rintro e w6 ⟨u6', rfl, h6, f, hfm, hfc, hfr⟩; have g6 := below_then g5 h6; have e6 := cell_below' e0 h6; have B46 := below_then (below_then ((Below.refl w4.heap.size w4).drew.alloc (Nat.le_refl _) _) h5) h6)
            | fail)
        all_goals
          have A6 := hid1 (HAll.out.below B46)
          have X6 := hid1 (HX4.out.below B46)
          have HFm := hid1 hfm
          have HFc := hid1 hfc
          have HSr := hid1 hfr
          have hby : i0.bytes * l.length ≤ 281474976710656 := by rw [hz2]; omega
          have hmln := hml1 l.length (by omega)
          have HSmem : Hid (∀ x, x ∈ (List.range l.length).filter f ↔ x < l.length ∧ f x = true) := hid1 fun x => by rw [List.mem_filter, List.mem_range]
          have HSlen : Hid (((List.range l.length).filter f).length ≤ l.length) := hid1 (by
            have := List.length_filter_le f (List.range l.length)
            simpa using this)
          generalize (List.range l.length).filter f = sm at *
          obtain ⟨ps, cs, rfl, hsin⟩ := HSr.out
          have HSI := hid1 hsin
          clear hfm hfc hfr hsin HSr HAll HX4 B46 h6 e6
          have zsm : (sm.length : Int) ≤ (l.length : Int) := by have := HSlen.out; omega
          go_wp2_with (at_make; refine wpList_make_full _ rfl _ _ 32 rfl w6.heap.size 4 i0 (.bool false) 1 Tryz.underlying32 hi hz0 hz1 .i64 .i64 _ _ l.length rfl rfl (by omega) (by omega) hby hmln (Nat.le_refl _) ?_; intro w7 hown hgrow; have O1 := made_row hown)
          have B1 : Below w6.heap.size w6 w7 := below_grown (Below.refl _ w6) (Nat.le_refl _) hgrow
          clear hown hgrow
          go_loopw [12] (fun iv wr => ∃ i : Nat, i ≤ sm.length ∧ iv = .int .i64 i ∧ Own wr w6.heap.size w6.heap.size l.length (fun j => decide (j ∈ sm.take i)) ∧ Below w6.heap.size w6 wr) (fun iv _ => sm.length - (intOf iv).toNat)
          case atStart => exact ⟨0, Nat.zero_le _, rfl, by simpa using O1, B1⟩
          case round =>
            obtain ⟨i, hil, rfl, O, B⟩ := hrel
            clear O1 B1
            have c0 : (0 : Int) ≤ (i : Int) := by omega
            by_cases hilt : i < sm.length
            · have c1 : (i : Int) < (sm.length : Int) := by omega
              have c2 : (i : Int) < (l.length : Int) := by omega
              have hiln : i < l.length := by omega
              obtain ⟨gs, os, rfl, hgs, hsc⟩ := HSI.out (by intro e; rw [e] at hilt; simp at hilt)
              obtain ⟨pa', ca', e, hain⟩ := A6.out
              obtain ⟨rfl, rfl⟩ : pa = pa' ∧ ca = ca' := by simpa using e
              obtain ⟨ga, oa, rfl, hga, hac⟩ := hain (by intro e; have := congrArg List.length e; simp at this; rw [this] at hiln; simp at hiln)
              have d1 := (B.cell (p := ⟨gs, os + i, none⟩) hgs).trans (hsc i hilt)
              have d2 := (B.cell (p := ⟨ga, oa + i, none⟩) hga).trans (hac i (by simpa using hiln))
              simp only [List.getElem_range] at d2
              have hx := (HSmem.out _).1 (List.getElem_mem hilt)
              have HSet : Hid (∀ j, j < l.length → (if j = sm[i] then true else decide (j ∈ sm.take i)) = decide (j ∈ sm.take (i + 1))) := hid1 fun j _ => by
                rw [List.take_succ_eq_append_getElem hilt]
                by_cases e : j = sm[i]
                · rw [if_pos e]
                  exact (decide_eq_true (by rw [e]; exact List.mem_append_right _ (List.mem_singleton.2 rfl))).symm
                · rw [if_neg e, decide_eq_decide, List.mem_append, List.mem_singleton]
                  exact ⟨Or.inl, fun h => h.resolve_right e⟩
              clear e hain hac hsc
              generalize sm[i] = x at *
              have hc := O.cell hx.1
              have hf := World.ownsRow.frozenAt O x
              have O2 := O.set x true HSet.out
              have B2 := B.setCell (p := ⟨w6.heap.size, x, none⟩) (Nat.le_refl _) (.bool true)
              have x1 : (x : Int) < (l.length : Int) := by omega
              have x0 : (0 : Int) ≤ (x : Int) := by omega
              clear O B hx HSet
              go_wp2
              exact ⟨⟨i + 1, by omega, by go_num, O2, B2⟩, by simp [intOf]; omega⟩
            · have c1 : (sm.length : Int) ≤ (i : Int) := by omega
              obtain rfl : i = sm.length := by omega
              have O3 : Own wr w6.heap.size w6.heap.size l.length (fun j => decide (j ∈ sm)) := O.congr fun j _ => by rw [List.take_length]
              have HO3 := hid1 O3
              have HB := hid1 (below_then g6 B)
              have X8 := hid1 (X6.out.below B)
              clear O O3 B A6 X6 g6
              generalize wr = w8 at *
              go_wp2
              go_loopw [13] (fun av wx => ∃ a : Nat, a ≤ l.length ∧ av = .int .i64 a ∧ ∃ q, wx = w8.drewN q) (fun av _ => l.length - (intOf av).toNat)
              case atStart => exact ⟨0, Nat.zero_le _, rfl, 0, rfl⟩
              case round =>
                obtain ⟨a, hal, rfl, q, rfl⟩ := hrel
                have a0 : (0 : Int) ≤ (a : Int) := by omega
                by_cases halt : a < l.length
                · have a1 : (a : Int) < (l.length : Int) := by omega
                  go_wp2
                  go_loopw [14] (fun kv wx => ∃ k : Nat, k ≤ l.length ∧ kv = .int .i64 k ∧ ∃ q, wx = w8.drewN q) (fun kv _ => l.length - (intOf kv).toNat)
                  case atStart => exact ⟨0, Nat.zero_le _, rfl, q, rfl⟩
                  case round =>
                    obtain ⟨k, hkl, rfl, q', rfl⟩ := hrel
                    have k0 : (0 : Int) ≤ (k : Int) := by omega
                    by_cases hklt : k < l.length
                    · have k1 : (k : Int) < (l.length : Int) := by omega
                      have da : (w8.drewN q').cell? ⟨w6.heap.size, a, none⟩ = some (.bool (decide (a ∈ sm))) := HO3.out.cell halt
                      cases hda : decide (a ∈ sm) with
                      | false =>
                        rw [hda] at da
                        go_wp2
                        exact ⟨⟨k + 1, by omega, by go_num, q', rfl⟩, by simp [intOf]; omega⟩
                      | true =>
                        rw [hda] at da
                        have HC := HN.out (w8.drewN q') (below_draws HB.out q') HS.out a k halt hklt
                        cases hn : Ru.needs l a k with
                        | false =>
                          rw [hn] at HC
                          clear hda
                          go_wp2_with fail
                          refine Calls.mono HC ?_
                          rintro e w9 ⟨rfl, q2, rfl⟩
                          clear HC
                          go_wp2
                          exact ⟨⟨k + 1, by omega, by go_num, q' + q2, by simp [World.drewN]⟩, by simp [intOf]; omega⟩
                        | true =>
                          rw [hn] at HC
                          have hk2 : decide (k ∈ sm) = true := decide_eq_true ((HSmem.out k).2 ⟨hklt, HFc.out a k ((HSmem.out a).1 (of_decide_eq_true hda)).2 hn⟩)
                          have dk := HO3.out.cell hklt
                          rw [hk2] at dk
                          clear hda hk2
                          go_wp2_with fail
                          refine Calls.mono HC ?_
                          rintro e w9 ⟨rfl, q2, rfl⟩
                          have dk2 : (w8.drewN (q' + q2)).cell? ⟨w6.heap.size, k, none⟩ = some (.bool true) := dk
                          clear HC
                          go_wp2
                          exact ⟨⟨k + 1, by omega, by go_num, q' + q2, by simp [World.drewN]⟩, by simp [intOf]; omega⟩
                    · have k1 : (l.length : Int) ≤ (k : Int) := by omega
                      go_wp2
                      exact ⟨⟨a + 1, by omega, by go_num, q', rfl⟩, by simp [intOf]; omega⟩
                · have a1 : (l.length : Int) ≤ (a : Int) := by omega
                  have gq := below_draws HB.out q
                  go_wp2_with fail
                  refine (HO.out _ gq (by omega) HS.out).mono ?_
                  rintro e w9 ⟨v9, rfl, hr9, h9⟩
                  have g9 := below_then gq h9
                  have HR9 := hid1 hr9
                  clear hr9
                  go_wp2_with fail
                  refine (HLe.out _ g9 v9 HR9.out (by omega) HS.out).mono ?_
                  rintro e w10 ⟨ul, el, rfl, h10, htl⟩
                  have g10 := below_then g9 h10
                  have B810 : Below w8.heap.size w8 w10 := below_then (below_then (below_draws (Below.refl _ w8) q) h9) h10
                  have O10 := hid1 (HO3.out.below B810)
                  have X10 := hid1 (X8.out.below B810)
                  rcases htl with ⟨hff, _⟩ | ⟨_, rfl, r, hlv, hir⟩
                  · exact absurd HF.out hff
                  have HLv := hid1 hlv
                  have hrl := leaf_len hlv fun x hx => (HS.out x hx).many
                  have zrl : (r.length : Int) ≤ 1000 := by omega
                  obtain ⟨pl, cl, rfl, hlin⟩ := hir
                  have HLi := hid1 hlin
                  have HIx := hid1 fun W (g : Below w10.heap.size w10 W) s => rIndex_calls u6 (l.map Ru.out) s (X10.out.below g).irow (by simp; omega)
                  clear hlv hlin h9 h10 B810 g9 gq HR9 HO3 X8 X10
                  have hmm : decide (m ∈ sm) = true := decide_eq_true ((HSmem.out m).2 ⟨hm, HFm.out⟩)
                  have dm := O10.out.cell hm
                  rw [hmm] at dm
                  have Hdm := hid1 dm
                  clear dm hmm O10
                  go_wp2
                  go_loopw [16] (fun jv wx => ∃ j : Nat, j ≤ r.length ∧ jv = .int .i64 j ∧ ∃ q, wx = w10.drewN q) (fun jv _ => r.length - (intOf jv).toNat)
                  case atStart => exact ⟨0, Nat.zero_le _, rfl, 0, rfl⟩
                  case round =>
                    obtain ⟨j, hjl, rfl, q, rfl⟩ := hrel
                    have j0 : (0 : Int) ≤ (j : Int) := by omega
                    by_cases hjlt : j < r.length
                    · have j1 : (j : Int) < (r.length : Int) := by omega
                      obtain ⟨gl, ol, rfl, hgl, hlc⟩ := HLi.out (by intro e; rw [e] at hjlt; simp at hjlt)
                      have d1 : (w10.drewN q).cell? ⟨gl, ol + j, none⟩ = some (.string (ba r[j])) := hlc j hjlt
                      have HIj : Hid (∀ W, Below w10.heap.size w10 W → Calls Tryz.prog 27 #[u6, .string (ba r[j])] W fun e w' => e = .returned (.int .i64 (-1)) ∧ w' = W) := hid1 fun W g => (HIx.out W g r[j]).mono fun e w' ⟨ix, h1, h2, h3⟩ => by
                        rcases h3 with ⟨rfl, _⟩ | ⟨k, rfl, hk, he, _⟩
                        · exact ⟨h1, h2⟩
                        · exact absurd (he ▸ List.getElem_mem hk) (leaf_out HLv.out j hjlt)
                      by_cases hj0 : j = 0
                      · subst hj0
                        rw [Nat.add_zero] at d1
                        have h00 : decide ((0 : Int) < ((0 : Nat) : Int)) = false := by decide
                        have h01 : decide ((0 : Int) < (0 : Int)) = false := by decide
                        clear hlc
                        generalize r[0] = y1 at *
                        have BW := below_draws (Below.refl w10.heap.size w10) q
                        generalize hw11 : w10.drewN q = w11 at *
                        have HW11 := hid1 hw11
                        clear hw11
                        go_wp2
                        go_quiet (first | (go_at_call 27; refine Calls.quiet_of_same (HIj.out _ ?_); first | exact BW | exact BW.drew | exact below_draws BW _) | fail)
                        all_goals
                          go_wp2
                          exact ⟨⟨0 + 1, by omega, by go_num, q + nq, by rw [← HW11.out]; first | rfl | simp [World.drewN, Nat.add_assoc]⟩, by simp [intOf]; omega⟩
                      · obtain ⟨j', rfl⟩ : ∃ j', j = j' + 1 := ⟨j - 1, by omega⟩
                        have d0 : (w10.drewN q).cell? ⟨gl, ol + j', none⟩ = some (.string (ba r[j'])) := hlc j' (by omega)
                        obtain ⟨r1, r2⟩ := leaf_rise HLv.out j' hjlt
                        have qw : IntKind.i64.wrap (((j' + 1 : Nat) : Int) - 1) = (j' : Int) := by rw [IntKind.wrap_i64]; omega
                        have jp : (0 : Int) < ((j' + 1 : Nat) : Int) := by omega
                        have jp2 : decide ((0 : Int) < ((j' + 1 : Nat) : Int)) = true := decide_eq_true jp
                        have jp3 : decide ((0 : Int) < (j' : Int) + 1) = true := decide_eq_true (by omega)
                        have jp4 : ((j' + 1 : Nat) : Int) - 1 = (j' : Int) := by omega
                        have jp5 : (j' : Int) < (r.length : Int) := by omega
                        have qw3 : IntKind.i64.wrap (j' : Int) = (j' : Int) := by rw [IntKind.wrap_i64]; omega
                        have jp7 : (j' : Int) + 1 < (r.length : Int) := by omega
                        have jp8 : (0 : Int) ≤ (j' : Int) + 1 := by omega
                        have qw2 : IntKind.i64.wrap ((j' : Int) + 1 - 1) = (j' : Int) := by rw [IntKind.wrap_i64]; omega
                        have jp6 : (0 : Int) ≤ (j' : Int) := by omega
                        clear hlc hj0
                        generalize r[j' + 1] = y1 at *
                        generalize r[j'] = y0 at *
                        have BW := below_draws (Below.refl w10.heap.size w10) q
                        generalize hw11 : w10.drewN q = w11 at *
                        have HW11 := hid1 hw11
                        clear hw11
                        go_wp2
                        go_region_held3 (fun w' => w'.cell? ⟨gl, ol + (j' + 1), none⟩ = some (.string (ba y1)) ∧ w'.cell? ⟨gl, ol + j', none⟩ = some (.string (ba y0))) (first | go_keep | fail)
                              (first | (go_at_call 27; refine (HIj.out _ (by exact BW.drew)).mono ?_; rintro e w12 ⟨rfl, rfl⟩) | fail)
                        all_goals
                          go_wp2
                          exact ⟨⟨j' + 1 + 1, by omega, by go_num, q + 1, by rw [← HW11.out]; rfl⟩, by simp [intOf]; omega⟩
                    · have j1 : (r.length : Int) ≤ (j : Int) := by omega
                      have dm : (w10.drewN q).cell? ⟨w6.heap.size, m, none⟩ = some (.bool true) := Hdm.out
                      go_wp2
                      go_ret
                      exact ⟨rfl, below_draws g10 q⟩
      · have ht := ht4.resolve_right (by rintro (⟨h, _⟩ | ⟨h, _⟩) <;> exact hf h)
        obtain ⟨_, he, pu, cu, rfl⟩ := ht
        obtain ⟨t, u, rfl⟩ := he.some hf
        clear he hf ht4
        go_wp2
        go_ret
        exact ⟨rfl, g4⟩
end Go.Proofs.YtmeplgihnlpjcaaGreatDoor
