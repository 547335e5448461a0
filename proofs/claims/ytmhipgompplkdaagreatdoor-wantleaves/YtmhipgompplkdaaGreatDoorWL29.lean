import Derived.Test.YtmhipgompplkdaaGreatDoorWL25
import Derived.Test.YtmhipgompplkdaaGreatDoorWL27
import Derived.Test.YtmhipgompplkdaaGreatDoorWL28
import Derived.Test.YtmhipgompplkdaaGreatDoorWL20
import Derived.BigQuiet
import Derived.Test.YtmhipgompplkdaaGreatDoorWL23
namespace Go.Proofs.YtmhipgompplkdaaGreatDoor
open Go.RowKit Go.Shelf Go.Lib
open Go.Sort (Holds putRow grow)
set_option maxRecDepth 100000 in
set_option maxHeartbeats 4000000 in
theorem grwith_calls {w : World} {B : Nat} (hB : B ≤ w.heap.size) (v : Value) (l : List Nat) (x : Nat) (hl : l.length ≤ 1000) (hown : w.ownsRow B 3 1 v l.length (l.map nv)) :
    Calls Tryz.prog 106 #[v, nv x] w fun e w' => ∃ v', e = .returned v' ∧ w'.ownsRow B 3 1 v' (withN l x).length ((withN l x).map nv) ∧ Below B w w' := by
  have HC := hid1 (slContainsI_calls v l x (NRow.of_owns hown).ni (by omega))
  obtain ⟨i1, hI, hI0, hI1, hI2⟩ := info_parts Tryz.infoInt
  have hml : l.length + 1 ≤ maxLen := by unfold maxLen; omega
  have HB := hid1 (Below.refl B w)
  by_cases hx : x ∈ l
  · have HQ : Hid (withN l x = l) := hid1 (by unfold withN; rw [if_pos hx])
    rw [HQ.out]
    rw [decide_eq_true hx] at HC
    clear hx HQ
    go_enter Tryz.func106, Tryz.ntmps106
    go_wp2_with fail
    refine HC.out.mono ?_
    rintro e w1 ⟨rfl, rfl⟩
    clear HC
    go_wp2
    go_ret
    exact ⟨_, rfl, hown, HB.out⟩
  · have HQ : Hid (withN l x = l ++ [x]) := hid1 (by unfold withN; rw [if_neg hx])
    rw [HQ.out]
    rw [decide_eq_false hx] at HC
    clear hx HQ
    go_enter Tryz.func106, Tryz.ntmps106
    go_wp2_with fail
    refine HC.out.mono ?_
    rintro e w1 ⟨rfl, rfl⟩
    clear HC
    go_wp2_with (at_builtin; refine wpList_append_own _ rfl _ _ 68 rfl B 3 i1 (.int .i64 0) 1 8 Tryz.underlying68 hI hI0 hI1 hI2 rfl (by decide) _ _ _ rfl (hown.alloc _) ⟨w1.heap.size, 0, none⟩ 1 1 [nv x] rfl rfl (one_new _ _ _ _ (by simp)) (by simp [Value.oneCell']) hml (by omega) (by simp; omega) ?_; intro v' w4 hown' hgrow _)
    go_ret
    exact ⟨_, rfl, by simpa using hown', below_appended HB.out hB hown hgrow⟩
theorem sortI_calls {w : World} {B : Nat} (hB : B ≤ w.heap.size) (v : Value) (l : List Nat) (hl : l.length ≤ 1000) (hown : w.ownsRow B 3 1 v l.length (l.map nv)) :
    Calls Tryz.prog 107 #[v] w fun e w' => e = .returned (.tuple #[]) ∧ NIRow w' v (l.mergeSort fun x y => decide (x ≤ y)) ∧ Below B w w' := by
  rcases hown.2 with ⟨rfl, hn⟩ | ⟨g, cap, cur, rfl, hBg, hb, h1, _⟩
  · obtain rfl := List.length_eq_zero_iff.1 hn
    refine (Tryz.slices_Sort_int_none none 0 w).mono ?_
    rintro e w' ⟨rfl, rfl⟩
    exact ⟨rfl, ⟨none, 0, by simp, fun h => absurd (by simp) h⟩, Below.refl _ _⟩
  · have hlt := (Array.getElem?_eq_some_iff.1 hb).1
    have hH := (Holds.of_owns hown).1
    have h := Tryz.slices_Sort_int g 0 cap (ints l) w hH hlt (by simp; omega)
    rw [show (ints l).length = l.length by simp] at h
    refine h.mono ?_
    rintro e w' ⟨rfl, n, os, rfl⟩
    have em : (ints l).mergeSort (fun x y => decide (x ≤ y)) = ints (l.mergeSort fun x y => decide (x ≤ y)) := by
      symm
      refine List.map_mergeSort ?_
      intro a _ b _
      simp
    rw [em]
    have hsz : g < (grow (putRow encI (Sort.ahead w n) g 0 (ints (l.mergeSort fun x y => decide (x ≤ y))).toArray) os).heap.size := by
      rw [Go.Sort.size_grow, Go.Sort.size_putRow]
      exact Nat.lt_of_lt_of_le hlt (Nat.le_add_right _ _)
    refine ⟨rfl, ?_, (Below.refl B w).grown (grow_grown _) hB (fun j hj => by cases hj; exact hBg)⟩
    have hp := Go.Sort.holds_putRow encI (Sort.ahead w n) g 0 (ints l).toArray (ints (l.mergeSort fun x y => decide (x ≤ y))).toArray hH (by simp)
    have hq := Go.Sort.holds_grow encI _ os g 0 _ (by rw [Go.Sort.size_putRow]; exact hlt) hp
    have := Holds.ni (cap := cap) hq hsz
    rwa [List.length_mergeSort] at this
theorem sorted_le (l : List Nat) : (l.mergeSort fun x y => decide (x ≤ y)).Pairwise (fun a b => a ≤ b) := by
  have := List.pairwise_mergeSort (le := fun x y : Nat => decide (x ≤ y)) (fun a b c h1 h2 => by simp at h1 h2 ⊢; omega) (fun a b => by simp; omega) l
  exact this.imp fun h => by simpa using h
theorem NIRow.at {w : World} {p : Option Addr} {n cap : Nat} {l : List Nat} (h : NIRow w (.slice p n cap) l) (hl : l ≠ []) : ∃ g o, p = some ⟨g, o, none⟩ ∧ g < w.heap.size ∧ ∀ j (hj : j < l.length), w.cell? ⟨g, o + j, none⟩ = some (nv l[j]) := by
  obtain ⟨p', cap', e, h1⟩ := h
  obtain ⟨rfl, _⟩ : p = p' ∧ True := by simp at e; exact ⟨e.1, trivial⟩
  exact h1 hl
set_option maxRecDepth 100000 in
set_option maxHeartbeats 16000000 in
theorem gNeeds_calls {w : World} {es : Nat → Addr} (hW : SheetW w es) (hnone : w.cell? ⟨2, 0, none⟩ = some (erOf es 6)) (v : Value) (l : List Ru) (hrow : RRow w v l) (hn : l.length ≤ 1000) (hS : ∀ x ∈ l, x.Small) (vo : Value) (outs : List (List UInt8)) (hout : XRow w vo outs) (hol : outs.length ≤ 1000) :
    Calls Tryz.prog 43 #[v, vo] w fun e w' => ∃ u ev, e = .returned (.tuple #[u, ev]) ∧ Below w.heap.size w w' ∧ NeedsTells es l outs w' u ev := by
  have HL := hid1 (grlook_calls hW v l hrow hn hS)
  have H12 : Hid (∀ i (hi : i < l.length), l[i].ins.length ≤ 12) := hid1 fun i hi => (hS _ (List.getElem_mem hi)).many
  obtain ⟨pr, cap, rfl, -⟩ := hrow
  obtain ⟨po, co, rfl, -, -, hino⟩ := hout
  have HO := hid1 hino
  clear hS hW hino
  have zn : (l.length : Int) ≤ 1000 := by omega
  have zo : (outs.length : Int) ≤ 1000 := by omega
  go_enter Tryz.func43, Tryz.ntmps43
  go_wp2_with fail
  refine HL.out.mono ?_
  rintro e w1 ⟨u, ev, rfl, g1, hT⟩
  rcases hT with ⟨hf, hE, rfl, t, x, rfl⟩ | ⟨hf, rfl, p, bm, G, vals, rfl, hSh⟩
  · have HE := hid1 hE
    have HZ := hid1 hf
    clear HL hE hf
    go_wp2
    go_ret2
    exact ⟨_, _, rfl, g1, .inl ⟨HZ.out, HE.out, _, _, rfl⟩⟩
  · have HZ := hid1 hf
    have HA := hid1 (Ru.fault_ok hf).2
    have HSh := hid1 hSh
    have HF := hid1 (Ru.NeedA.first l outs)
    have hc0 := hSh.c0
    have hc1 := hSh.c1
    have hn1 := cell_below' hnone g1
    clear HL hf hSh
    go_wp2
    go_loopw [8, 26] (fun ov iv wr => ∃ (j : Nat) (r : List Nat), j ≤ outs.length ∧ iv = .int .i64 j ∧ wr.ownsRow w1.heap.size 3 1 ov r.length (r.map nv) ∧ Ru.NeedA l outs j r ∧ Below w1.heap.size w1 wr) (fun _ iv _ => outs.length - (intOf iv).toNat)
    case atStart => exact ⟨0, [], Nat.zero_le _, rfl, World.ownsRow_nil _ _ _ _, HF.out, Below.refl _ _⟩
    case round =>
      obtain ⟨j, r, hjl, rfl, hO, hA, B⟩ := hrel
      have HOw := hid1 hO
      have HN := hid1 hA
      have hrl := hA.len
      clear hO hA HF
      have j0 : (0 : Int) ≤ (j : Int) := by omega
      by_cases hlt : j < outs.length
      · have j1 : (j : Int) < (outs.length : Int) := by omega
        obtain ⟨go, oo, rfl, hgo, hco⟩ := HO.out (by intro e; rw [e] at hlt; simp at hlt)
        have gB := below_then g1 B
        have e3 := (gB.cell (p := ⟨go, oo + j, none⟩) hgo).trans (hco j hlt)
        have hcm := cell_below' hc0 B
        have hlk := look_mk (HSh.out.below B).map outs[j]
        cases hm : Ru.mkr l outs[j] with
        | none =>
          have HQ : Hid (∀ W ev, ErrV W es ev (6, (j : Int)) → NeedsTells es l outs W (.slice none 0 0) ev) := hid1 fun W ev hE => .inr (.inl ⟨HZ.out, j, hlt, Ru.mkr_none hm, HN.out.made, hE, _, _, rfl⟩)
          rw [hm] at hlk
          simp only [Option.getD_none, Option.isSome_none] at hlk
          have hnr := cell_below' hn1 B
          simp only [erOf] at hnr
          clear hm HN HOw hco HO HA
          generalize outs[j] = s at *
          go_wp2
          go_region
          all_goals
            go_wp2
            go_ret2
            refine ⟨_, _, rfl, ?_, HQ.out _ _ (.inr ⟨_, 5, rfl, by omega, rfl, ?_, ?_⟩)⟩
            · first | exact (gB.alloc gB.size _).drew | exact gB.drew.alloc gB.size _
            · simp
            · simp [erOf]
        | some k =>
          have HQ := hid1 (HN.out.more HA.out hlt hm)
          rw [hm] at hlk
          simp only [Option.getD_some, Option.isSome_some] at hlk
          have HW := hid1 (grwith_calls B.size u8 r k (by omega) HOw.out)
          clear hm HN hco HO
          generalize outs[j] = s at *
          go_wp2_with fail
          refine HW.out.mono ?_
          rintro e w3 ⟨v3, rfl, ho3, g3⟩
          have G3 := B.trans g3
          clear HW
          go_wp2
          exact ⟨⟨j + 1, _, by omega, by go_num, ho3, HQ.out, G3⟩, by simp [intOf]; omega⟩
      · have j1 : (outs.length : Int) ≤ (j : Int) := by omega
        obtain rfl : j = outs.length := by omega
        have HD := hid1 HN.out.done
        have HMd := hid1 HN.out.made
        clear HN HO
        generalize wr = w2 at *
        go_wp2
        go_loopw [8, 13] (fun ov av wx => ∃ (a : Nat) (r : List Nat), a ≤ r.length ∧ av = .int .i64 a ∧ wx.ownsRow w1.heap.size 3 1 ov r.length (r.map nv) ∧ Ru.NeedB l outs r a 0 ∧ Below w1.heap.size w1 wx) (fun _ av _ => l.length - (intOf av).toNat)
        case atStart => exact ⟨0, r, Nat.zero_le _, rfl, HOw.out, HD.out, B⟩
        case round =>
          clear HD HOw B hrl r
          obtain ⟨a, r, hal, rfl, hO, hB, B⟩ := hrel
          have HOw := hid1 hO
          have HN := hid1 hB
          have hrl := hB.len
          clear hO hB
          have a0 : (0 : Int) ≤ (a : Int) := by omega
          obtain ⟨pv, cv, rfl⟩ := own_slice HOw.out
          by_cases hlt : a < r.length
          · have a1 : (a : Int) < (r.length : Int) := by omega
            have hx := List.getElem?_eq_getElem hlt
            have hxl := HN.out.lt r[a] (List.getElem_mem hlt)
            obtain ⟨gv, ov, rfl, hgv, hcv⟩ := (NRow.of_owns HOw.out).ni.at (by intro e; rw [e] at hlt; simp at hlt)
            have hca := hcv a hlt
            have hbt := cell_below' hc1 B
            obtain ⟨dx, rx⟩ := HSh.out.row r[a] hxl
            have dx1 := cell_below' dx B
            have hnl : (Ru.needL l l[r[a]].ins).length ≤ 12 := by
              have := Ru.needL_len l l[r[a]].ins
              have := H12.out r[a] hxl
              omega
            have HK := hid1 rx
            clear hcv dx rx
            generalize hxe : r[a] = x at *
            clear hxe
            have x0 : (0 : Int) ≤ (x : Int) := by omega
            have x1 : (x : Int) < (l.length : Int) := by omega
            obtain ⟨px, cx, ex, hinx⟩ := HK.out
            have HX := hid1 hinx
            clear HK hinx
            rw [ex] at dx1
            clear ex
            generalize hNL : Ru.needL l l[x].ins = nl at *
            have zl : (nl.length : Int) ≤ 12 := by omega
            generalize wr = w3 at *
            go_wp2
            go_quiet (fail)
            go_wp2
            go_loopw [8, 68] (fun ov mv wx => ∃ (m : Nat) (r : List Nat), m ≤ nl.length ∧ mv = .int .i64 m ∧ wx.ownsRow w1.heap.size 3 1 ov r.length (r.map nv) ∧ Ru.NeedB l outs r a m ∧ r[a]? = some x ∧ Below w1.heap.size w1 wx) (fun _ mv _ => nl.length - (intOf mv).toNat)
            case atStart => exact ⟨0, r, Nat.zero_le _, rfl, HOw.out, HN.out, hx, below_draws B _⟩
            case round =>
              clear HOw HN hx hca hbt dx1 hrl hal hlt a1 hgv B
              obtain ⟨m, r, hml, rfl, hO, hN, hx, B⟩ := hrel
              have HOw := hid1 hO
              have HN := hid1 hN
              have hrl := hN.len
              clear hO hN
              have m0 : (0 : Int) ≤ (m : Int) := by omega
              by_cases hmlt : m < nl.length
              · have m1 : (m : Int) < (nl.length : Int) := by omega
                obtain ⟨gx, ox, rfl, hgx, hcx⟩ := HX.out (by intro e; rw [e] at hmlt; simp at hmlt)
                have hcm := (B.cell (p := ⟨gx, ox + m, none⟩) hgx).trans (hcx m hmlt)
                have HQ : Hid (Ru.NeedB l outs (withN r nl[m]) a (m + 1)) := hid1 (by
                  subst hNL
                  exact HN.out.more HA.out hx hxl hmlt)
                have HG : Hid ((withN r nl[m])[a]? = some x) := hid1 (by
                  rw [Ru.withN_get (List.getElem?_eq_some_iff.1 hx).1]
                  exact hx)
                have HW := hid1 (grwith_calls B.size u8 r nl[m] (by omega) HOw.out)
                clear HN hcx HX hx
                generalize nl[m] = y at *
                go_wp2_with fail
                refine HW.out.mono ?_
                rintro e w5 ⟨v5, rfl, ho5, g5⟩
                have G5 := B.trans g5
                clear HW
                go_wp2
                exact ⟨⟨m + 1, _, by omega, by go_num, ho5, HQ.out, HG.out, G5⟩, by simp [intOf]; omega⟩
              · have m1 : (nl.length : Int) ≤ (m : Int) := by omega
                have HQ : Hid (Ru.NeedB l outs r (a + 1) 0) := hid1 (by
                  subst hNL
                  exact HN.out.next hx hxl (by omega))
                have hal2 := (List.getElem?_eq_some_iff.1 hx).1
                clear HN HX hx
                go_wp2
                exact ⟨⟨a + 1, r, by omega, by go_num, HOw.out, HQ.out, B⟩, by simp [intOf]; omega⟩
          · have a1 : (r.length : Int) ≤ (a : Int) := by omega
            have HQ : Hid (Ru.Needed l outs (Ru.isIn r)) := hid1 (HN.out.done HA.out (by omega))
            have HS : Hid ((r.mergeSort fun x y => decide (x ≤ y)) = (List.range l.length).filter (Ru.isIn r)) := hid1 (Ru.sorted_filter (sorted_le r) ((List.mergeSort_perm r _).nodup_iff.2 HN.out.once) (fun k hk => HN.out.lt k ((List.mergeSort_perm r _).mem_iff.1 hk)) _ (fun k _ => by
              rw [(List.mergeSort_perm r _).mem_iff]
              simp [Ru.isIn]))
            have HC := hid1 (sortI_calls B.size _ r (by omega) HOw.out)
            rw [HS.out] at HC
            clear HN HS
            go_wp2_with fail
            refine HC.out.mono ?_
            rintro e w4 ⟨rfl, h4, g4⟩
            have HH := hid1 h4
            have G4 := below_then g1 (B.trans g4)
            clear HC h4 g4
            go_wp2
            go_ret2
            exact ⟨_, _, rfl, G4, .inr (.inr ⟨HZ.out, fun i hi => HMd.out i hi hi, rfl, _, HQ.out, HH.out⟩)⟩
end Go.Proofs.YtmhipgompplkdaaGreatDoor
namespace Go.Proofs.YtmhipgompplkdaaGreatDoor
open Go.RowKit Go.Shelf Go.Lib Go.Maps
structure Chosen (D : DataW Unit) (dm b : Nat → Bool) (left : Lit → Bool) (cs : List Nat) : Prop where
  sub : ∀ z, left z = true → has D z = true
  mem : ∀ k : Nat, k ∈ cs ↔ dm k = true ∧ left (.int .i64 (k : Nat)) = false ∧ b k = true
  once : cs.Nodup
theorem Chosen.start {D : DataW Unit} {dm b : Nat → Bool} (hD : ∀ i : Int, has D (.int .i64 i) = true ↔ 0 ≤ i ∧ dm i.toNat = true) : Chosen D dm b (has D) [] := by
  refine ⟨fun _ h => h, fun k => ?_, List.nodup_nil⟩
  have := hD (k : Nat)
  simp only [Int.toNat_natCast] at this
  constructor
  · intro h; cases h
  · rintro ⟨h1, h2, _⟩
    rw [this.2 ⟨by omega, h1⟩] at h2
    cases h2
theorem Chosen.step {D : DataW Unit} {dm b : Nat → Bool} {left : Lit → Bool} {cs : List Nat} (h : Chosen D dm b left cs) {k : Nat} (hd : dm k = true) (hl : left (.int .i64 (k : Nat)) = true) : Chosen D dm b (fun z => left z && !z.sameKey (.int .i64 (k : Nat))) (cs ++ (if b k = true then [k] else [])) := by
  have hk : WideAt.IsKeyLit (.int .i64 (k : Nat)) := by simp [WideAt.IsKeyLit]
  have hnk : k ∉ cs := fun e => by
    have := ((h.mem k).1 e).2.1
    rw [hl] at this
    cases this
  refine ⟨fun z hz => h.sub z (by rw [Bool.and_eq_true] at hz; exact hz.1), fun j => ?_, ?_⟩
  · rw [List.mem_append, h.mem]
    by_cases e : j = k
    · subst e
      have h1 : (left (.int .i64 (j : Nat)) && !(Lit.int .i64 (j : Nat)).sameKey (.int .i64 (j : Nat))) = false := by
        rw [WideAt.sameKey_self hk, hl]
        rfl
      rw [h1, hl]
      by_cases hb : b j = true
      · simp [hb, hd]
      · simp [hb]
    · have h1 : (Lit.int .i64 (j : Nat)).sameKey (.int .i64 (k : Nat)) = false := Maps.sameKey_ne (by simp; omega)
      rw [h1]
      constructor
      · rintro (h2 | h2)
        · simpa using h2
        · split at h2
          · exact absurd (List.mem_singleton.1 h2) e
          · cases h2
      · intro h2
        exact .inl (by simpa using h2)
  · split
    · rw [List.nodup_append]
      exact ⟨h.once, by simp, fun a ha c hc => by
        rw [List.mem_singleton.1 hc]
        rintro rfl
        exact hnk ha⟩
    · simpa using h.once
theorem Chosen.done {D : DataW Unit} {dm b : Nat → Bool} {left : Lit → Bool} {cs : List Nat} (h : Chosen D dm b left cs) (h0 : ∀ z, left z = false) {N : Nat} (hN : ∀ k, dm k = true → k < N) : (cs.mergeSort fun x y => decide (x ≤ y)) = (List.range N).filter fun k => dm k && b k := by
  refine List.Perm.eq_of_pairwise (le := fun a b => a ≤ b) (fun a b _ _ h1 h2 => Nat.le_antisymm h1 h2) (sorted_le cs) ?_ ?_
  · have : (List.range N).Pairwise (fun a b => a ≤ b) := (List.pairwise_lt_range (n := N)).imp fun h => Nat.le_of_lt h
    exact this.filter _
  · refine (List.mergeSort_perm _ _).trans ?_
    rw [List.perm_ext_iff_of_nodup h.once (List.Pairwise.filter _ List.nodup_range)]
    intro k
    rw [h.mem, List.mem_filter, List.mem_range, Bool.and_eq_true, h0]
    constructor
    · rintro ⟨h1, _, h2⟩
      exact ⟨hN k h1, h1, h2⟩
    · rintro ⟨_, h1, h2⟩
      exact ⟨h1, rfl, h2⟩
theorem Chosen.len {D : DataW Unit} {dm b : Nat → Bool} {left : Lit → Bool} {cs : List Nat} (h : Chosen D dm b left cs) {N : Nat} (hN : ∀ k, dm k = true → k < N) : cs.length ≤ N := by
  exact len_le h.once fun k hk => hN k ((h.mem k).1 hk).1
end Go.Proofs.YtmhipgompplkdaaGreatDoor
