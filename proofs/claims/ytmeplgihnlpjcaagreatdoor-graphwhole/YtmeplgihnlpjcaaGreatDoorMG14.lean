/- Package graph's Needs: the walks. -/
import Derived.Test.YtmeplgihnlpjcaaGreatDoorMG11
import Derived.Test.YtmeplgihnlpjcaaGreatDoorMG10
import Derived.Test.YtmeplgihnlpjcaaGreatDoorGLook
import Derived.Test.YtmeplgihnlpjcaaGreatDoorMG13
import Derived.BigQuiet
import Derived.Test.YtmeplgihnlpjcaaGreatDoorMG7
import Derived.Deep.RegionHeld3
namespace Go.Proofs.YtmeplgihnlpjcaaGreatDoor
open Go.RowKit Go.Shelf Go.Lib
open Go.Sort (Holds putRow grow)

set_option maxRecDepth 100000 in
set_option maxHeartbeats 4000000 in
theorem grwith_calls {w : World} {B : Nat} (hB : B ≤ w.heap.size) (v : Value) (l : List Nat) (x : Nat) (hl : l.length ≤ 1000) (hown : w.ownsRow B 3 1 v l.length (l.map nv)) :
    Calls Tryz.prog 32 #[v, nv x] w fun e w' => ∃ v', e = .returned v' ∧ w'.ownsRow B 3 1 v' (withN l x).length ((withN l x).map nv) ∧ Below B w w' := by
  have HC := hid1 (slContainsI_calls v l x (NRow.of_owns hown).ni (by omega))
  obtain ⟨i1, hI, hI0, hI1, hI2⟩ := info_parts Tryz.infoInt
  have hml : l.length + 1 ≤ maxLen := by unfold maxLen; omega
  have HB := hid1 (Below.refl B w)
  by_cases hx : x ∈ l
  · have HQ : Hid (withN l x = l) := hid1 (by unfold withN; rw [if_pos hx])
    rw [HQ.out]
    rw [decide_eq_true hx] at HC
    clear hx HQ
    go_enter Tryz.func32, Tryz.ntmps32
    go_wp2_with fail
    refine HC.out.mono ?_
    rintro e w1 ⟨rfl, rfl⟩
    clear HC
    go_wp2
    go_ret
    exact ⟨_, rfl, hown, HB.out⟩
  · have HQ : Hid (withN l x = l ++ [x]) := hid1 (by unfold withN; rw [if_neg hx])
    rw [HQ.out]
    rw [decide_eq_false hx] at HC
    clear hx HQ
    go_enter Tryz.func32, Tryz.ntmps32
    go_wp2_with fail
    refine HC.out.mono ?_
    rintro e w1 ⟨rfl, rfl⟩
    clear HC
    go_wp2_with (at_builtin; refine wpList_append_own _ rfl _ _ 25 rfl B 3 i1 (.int .i64 0) 1 8 Tryz.underlying25 hI hI0 hI1 hI2 rfl (by decide) _ _ _ rfl (hown.alloc _) ⟨w1.heap.size, 0, none⟩ 1 1 [nv x] rfl rfl (one_new _ _ _ _ (by simp)) (by simp [Value.oneCell']) hml (by omega) (by simp; omega) ?_; intro v' w4 hown' hgrow _)
    go_ret
    exact ⟨_, rfl, by simpa using hown', below_appended HB.out hB hown hgrow⟩

/-- slices.Sort over numbers. -/
theorem sortI_calls {w : World} {B : Nat} (hB : B ≤ w.heap.size) (v : Value) (l : List Nat) (hl : l.length ≤ 1000) (hown : w.ownsRow B 3 1 v l.length (l.map nv)) :
    Calls Tryz.prog 33 #[v] w fun e w' => e = .returned (.tuple #[]) ∧ NIRow w' v (l.mergeSort fun x y => decide (x ≤ y)) ∧ Below B w w' := by
  rcases hown.2 with ⟨rfl, hn⟩ | ⟨g, cap, cur, rfl, hBg, hb, h1, _⟩
  · obtain rfl := List.length_eq_zero_iff.1 hn
    refine (Tryz.slices_Sort_int_none none 0 w).mono ?_
    rintro e w' ⟨rfl, rfl⟩
    exact ⟨rfl, ⟨none, 0, by simp, fun h => absurd (by simp) h⟩, Below.refl _ _⟩
  · have hlt := (Array.getElem?_eq_some_iff.1 hb).1
    have hH := (Holds.of_owns hown).1
    have h := Tryz.slices_Sort_int g 0 cap (ints l) w hH hlt (by simp; omega)
    rw [show (ints l).length = l.length by simp] at h
    refine h.mono ?_
    rintro e w' ⟨rfl, n, os, rfl⟩
    have em : (ints l).mergeSort (fun x y => decide (x ≤ y)) = ints (l.mergeSort fun x y => decide (x ≤ y)) := by
      symm
      refine List.map_mergeSort ?_
      intro a _ b _
      simp
    rw [em]
    have hsz : g < (grow (putRow encI (Sort.ahead w n) g 0 (ints (l.mergeSort fun x y => decide (x ≤ y))).toArray) os).heap.size := by
      rw [Go.Sort.size_grow, Go.Sort.size_putRow]
      exact Nat.lt_of_lt_of_le hlt (Nat.le_add_right _ _)
    refine ⟨rfl, ?_, (Below.refl B w).grown (grow_grown _) hB (fun j hj => by cases hj; exact hBg)⟩
    have hp := Go.Sort.holds_putRow encI (Sort.ahead w n) g 0 (ints l).toArray (ints (l.mergeSort fun x y => decide (x ≤ y))).toArray hH (by simp)
    have hq := Go.Sort.holds_grow encI _ os g 0 _ (by rw [Go.Sort.size_putRow]; exact hlt) hp
    have := Holds.ni (cap := cap) hq hsz
    rwa [List.length_mergeSort] at this
theorem sorted_le (l : List Nat) : (l.mergeSort fun x y => decide (x ≤ y)).Pairwise (fun a b => a ≤ b) := by
  have := List.pairwise_mergeSort (le := fun x y : Nat => decide (x ≤ y)) (fun a b c h1 h2 => by simp at h1 h2 ⊢; omega) (fun a b => by simp; omega) l
  exact this.imp fun h => by simpa using h

theorem NIRow.at {w : World} {p : Option Addr} {n cap : Nat} {l : List Nat} (h : NIRow w (.slice p n cap) l) (hl : l ≠ []) : ∃ g o, p = some ⟨g, o, none⟩ ∧ g < w.heap.size ∧ ∀ j (hj : j < l.length), w.cell? ⟨g, o + j, none⟩ = some (nv l[j]) := by
  obtain ⟨p', cap', e, h1⟩ := h
  obtain ⟨rfl, _⟩ : p = p' ∧ True := by simp at e; exact ⟨e.1, trivial⟩
  exact h1 hl

set_option maxRecDepth 100000 in
set_option maxHeartbeats 16000000 in
theorem gNeeds_calls {w : World} {es : Nat → Addr} (hW : SheetW w es) (hnone : w.cell? ⟨0, 0, none⟩ = some (erOf es 6)) (v : Value) (l : List Ru) (hrow : RRow w v l) (hn : l.length ≤ 1000) (hS : ∀ x ∈ l, x.Small) (vo : Value) (outs : List (List UInt8)) (hout : XRow w vo outs) (hol : outs.length ≤ 1000) :
    Calls Tryz.prog 13 #[v, vo] w fun e w' => ∃ u ev, e = .returned (.tuple #[u, ev]) ∧ Below w.heap.size w w' ∧ NeedsTells es l outs w' u ev := by
  have HL := hid1 (grlook_calls hW v l hrow hn hS)
  have H12 : Hid (∀ i (hi : i < l.length), l[i].ins.length ≤ 12) := hid1 fun i hi => (hS _ (List.getElem_mem hi)).many
  obtain ⟨pr, cap, rfl, -⟩ := hrow
  obtain ⟨po, co, rfl, -, -, hino⟩ := hout
  have HO := hid1 hino
  clear hS hW hino
  have zn : (l.length : Int) ≤ 1000 := by omega
  have zo : (outs.length : Int) ≤ 1000 := by omega
  go_enter Tryz.func13, Tryz.ntmps13
  go_wp2_with fail
  refine HL.out.mono ?_
  rintro e w1 ⟨u, ev, rfl, g1, hT⟩
  rcases hT with ⟨hf, hE, rfl, t, x, rfl⟩ | ⟨hf, rfl, p, bm, G, vals, rfl, hSh⟩
  · have HE := hid1 hE
    have HZ := hid1 hf
    clear HL hE hf
    go_wp2
    go_ret2
    exact ⟨_, _, rfl, g1, .inl ⟨HZ.out, HE.out, _, _, rfl⟩⟩
  · have HZ := hid1 hf
    have HA := hid1 (Ru.fault_ok hf).2
    have HSh := hid1 hSh
    have HF := hid1 (Ru.NeedA.first l outs)
    have hc0 := hSh.c0
    have hc1 := hSh.c1
    have hn1 := cell_below' hnone g1
    clear HL hf hSh
    go_wp2
    go_loopw [8, 26] (fun ov iv wr => ∃ (j : Nat) (r : List Nat), j ≤ outs.length ∧ iv = .int .i64 j ∧ wr.ownsRow w1.heap.size 3 1 ov r.length (r.map nv) ∧ Ru.NeedA l outs j r ∧ Below w1.heap.size w1 wr) (fun _ iv _ => outs.length - (intOf iv).toNat)
    case atStart => exact ⟨0, [], Nat.zero_le _, rfl, World.ownsRow_nil _ _ _ _, HF.out, Below.refl _ _⟩
    case round =>
      obtain ⟨j, r, hjl, rfl, hO, hA, B⟩ := hrel
      have HOw := hid1 hO
      have HN := hid1 hA
      have hrl := hA.len
      clear hO hA HF
      have j0 : (0 : Int) ≤ (j : Int) := by omega
      by_cases hlt : j < outs.length
      · have j1 : (j : Int) < (outs.length : Int) := by omega
        obtain ⟨go, oo, rfl, hgo, hco⟩ := HO.out (by intro e; rw [e] at hlt; simp at hlt)
        have gB := below_then g1 B
        have e3 := (gB.cell (p := ⟨go, oo + j, none⟩) hgo).trans (hco j hlt)
        have hcm := cell_below' hc0 B
        have hlk := look_mk (HSh.out.below B).map outs[j]
        cases hm : Ru.mkr l outs[j] with
        | none =>
          have HQ : Hid (∀ W ev, ErrV W es ev (6, (j : Int)) → NeedsTells es l outs W (.slice none 0 0) ev) := hid1 fun W ev hE => .inr (.inl ⟨HZ.out, j, hlt, Ru.mkr_none hm, HN.out.made, hE, _, _, rfl⟩)
          rw [hm] at hlk
          simp only [Option.getD_none, Option.isSome_none] at hlk
          have hnr := cell_below' hn1 B
          simp only [erOf] at hnr
          clear hm HN HOw hco HO HA
          generalize outs[j] = s at *
          go_wp2
          go_region
          all_goals
            go_wp2
            go_ret2
            refine ⟨_, _, rfl, ?_, HQ.out _ _ (.inr ⟨_, 5, rfl, by omega, rfl, ?_, ?_⟩)⟩
            · first | exact (gB.alloc gB.size _).drew | exact gB.drew.alloc gB.size _
            · simp
            · simp [erOf]
        | some k =>
          have HQ := hid1 (HN.out.more HA.out hlt hm)
          rw [hm] at hlk
          simp only [Option.getD_some, Option.isSome_some] at hlk
          have HW := hid1 (grwith_calls B.size u8 r k (by omega) HOw.out)
          clear hm HN hco HO
          generalize outs[j] = s at *
          go_wp2_with fail
          refine HW.out.mono ?_
          rintro e w3 ⟨v3, rfl, ho3, g3⟩
          have G3 := B.trans g3
          clear HW
          go_wp2
          exact ⟨⟨j + 1, _, by omega, by go_num, ho3, HQ.out, G3⟩, by simp [intOf]; omega⟩
      · have j1 : (outs.length : Int) ≤ (j : Int) := by omega
        obtain rfl : j = outs.length := by omega
        have HD := hid1 HN.out.done
        have HMd := hid1 HN.out.made
        clear HN HO
        generalize wr = w2 at *
        go_wp2
        go_loopw [8, 13] (fun ov av wx => ∃ (a : Nat) (r : List Nat), a ≤ r.length ∧ av = .int .i64 a ∧ wx.ownsRow w1.heap.size 3 1 ov r.length (r.map nv) ∧ Ru.NeedB l outs r a 0 ∧ Below w1.heap.size w1 wx) (fun _ av _ => l.length - (intOf av).toNat)
        case atStart => exact ⟨0, r, Nat.zero_le _, rfl, HOw.out, HD.out, B⟩
        case round =>
          clear HD HOw B hrl r
          obtain ⟨a, r, hal, rfl, hO, hB, B⟩ := hrel
          have HOw := hid1 hO
          have HN := hid1 hB
          have hrl := hB.len
          clear hO hB
          have a0 : (0 : Int) ≤ (a : Int) := by omega
          obtain ⟨pv, cv, rfl⟩ := own_slice HOw.out
          by_cases hlt : a < r.length
          · have a1 : (a : Int) < (r.length : Int) := by omega
            have hx := List.getElem?_eq_getElem hlt
            have hxl := HN.out.lt r[a] (List.getElem_mem hlt)
            obtain ⟨gv, ov, rfl, hgv, hcv⟩ := (NRow.of_owns HOw.out).ni.at (by intro e; rw [e] at hlt; simp at hlt)
            have hca := hcv a hlt
            have hbt := cell_below' hc1 B
            obtain ⟨dx, rx⟩ := HSh.out.row r[a] hxl
            have dx1 := cell_below' dx B
            have hnl : (Ru.needL l l[r[a]].ins).length ≤ 12 := by
              have := Ru.needL_len l l[r[a]].ins
              have := H12.out r[a] hxl
              omega
            have HK := hid1 rx
            clear hcv dx rx
            generalize hxe : r[a] = x at *
            clear hxe
            have x0 : (0 : Int) ≤ (x : Int) := by omega
            have x1 : (x : Int) < (l.length : Int) := by omega
            obtain ⟨px, cx, ex, hinx⟩ := HK.out
            have HX := hid1 hinx
            clear HK hinx
            rw [ex] at dx1
            clear ex
            generalize hNL : Ru.needL l l[x].ins = nl at *
            have zl : (nl.length : Int) ≤ 12 := by omega
            generalize wr = w3 at *
            go_wp2
            go_quiet (fail)
            go_wp2
            go_loopw [8, 68] (fun ov mv wx => ∃ (m : Nat) (r : List Nat), m ≤ nl.length ∧ mv = .int .i64 m ∧ wx.ownsRow w1.heap.size 3 1 ov r.length (r.map nv) ∧ Ru.NeedB l outs r a m ∧ r[a]? = some x ∧ Below w1.heap.size w1 wx) (fun _ mv _ => nl.length - (intOf mv).toNat)
            case atStart => exact ⟨0, r, Nat.zero_le _, rfl, HOw.out, HN.out, hx, below_draws B _⟩
            case round =>
              clear HOw HN hx hca hbt dx1 hrl hal hlt a1 hgv B
              obtain ⟨m, r, hml, rfl, hO, hN, hx, B⟩ := hrel
              have HOw := hid1 hO
              have HN := hid1 hN
              have hrl := hN.len
              clear hO hN
              have m0 : (0 : Int) ≤ (m : Int) := by omega
              by_cases hmlt : m < nl.length
              · have m1 : (m : Int) < (nl.length : Int) := by omega
                obtain ⟨gx, ox, rfl, hgx, hcx⟩ := HX.out (by intro e; rw [e] at hmlt; simp at hmlt)
                have hcm := (B.cell (p := ⟨gx, ox + m, none⟩) hgx).trans (hcx m hmlt)
                have HQ : Hid (Ru.NeedB l outs (withN r nl[m]) a (m + 1)) := hid1 (by
                  subst hNL
                  exact HN.out.more HA.out hx hxl hmlt)
                have HG : Hid ((withN r nl[m])[a]? = some x) := hid1 (by
                  rw [Ru.withN_get (List.getElem?_eq_some_iff.1 hx).1]
                  exact hx)
                have HW := hid1 (grwith_calls B.size u8 r nl[m] (by omega) HOw.out)
                clear HN hcx HX hx
                generalize nl[m] = y at *
                go_wp2_with fail
                refine HW.out.mono ?_
                rintro e w5 ⟨v5, rfl, ho5, g5⟩
                have G5 := B.trans g5
                clear HW
                go_wp2
                exact ⟨⟨m + 1, _, by omega, by go_num, ho5, HQ.out, HG.out, G5⟩, by simp [intOf]; omega⟩
              · have m1 : (nl.length : Int) ≤ (m : Int) := by omega
                have HQ : Hid (Ru.NeedB l outs r (a + 1) 0) := hid1 (by
                  subst hNL
                  exact HN.out.next hx hxl (by omega))
                have hal2 := (List.getElem?_eq_some_iff.1 hx).1
                clear HN HX hx
                go_wp2
                exact ⟨⟨a + 1, r, by omega, by go_num, HOw.out, HQ.out, B⟩, by simp [intOf]; omega⟩
          · have a1 : (r.length : Int) ≤ (a : Int) := by omega
            have HQ : Hid (Ru.Needed l outs (Ru.isIn r)) := hid1 (HN.out.done HA.out (by omega))
            have HS : Hid ((r.mergeSort fun x y => decide (x ≤ y)) = (List.range l.length).filter (Ru.isIn r)) := hid1 (Ru.sorted_filter (sorted_le r) ((List.mergeSort_perm r _).nodup_iff.2 HN.out.once) (fun k hk => HN.out.lt k ((List.mergeSort_perm r _).mem_iff.1 hk)) _ (fun k _ => by
              rw [(List.mergeSort_perm r _).mem_iff]
              simp [Ru.isIn]))
            have HC := hid1 (sortI_calls B.size _ r (by omega) HOw.out)
            rw [HS.out] at HC
            clear HN HS
            go_wp2_with fail
            refine HC.out.mono ?_
            rintro e w4 ⟨rfl, h4, g4⟩
            have HH := hid1 h4
            have G4 := below_then g1 (B.trans g4)
            clear HC h4 g4
            go_wp2
            go_ret2
            exact ⟨_, _, rfl, G4, .inr (.inr ⟨HZ.out, fun i hi => HMd.out i hi hi, rfl, _, HQ.out, HH.out⟩)⟩
end Go.Proofs.YtmeplgihnlpjcaaGreatDoor
/- Package graph's far: the walk. -/
namespace Go.Proofs.YtmeplgihnlpjcaaGreatDoor
open Go.RowKit Go.Shelf Go.Lib

theorem Ru.Steps.le {l : List Ru} {e i t : Nat} (h : Ru.Steps l e i t) : t ≤ l.length := by
  cases t with
  | zero => exact Nat.zero_le _
  | succ t =>
    obtain ⟨s, hs, hw⟩ := h.1.short
    have := h.2 _ hw
    omega
/-- How far, as the table tells it. -/
def farI (s : List Nat) (d : Nat → Nat) (j : Nat) : Int := if j ∈ s then (d j : Int) else -1
theorem farI_in {s : List Nat} {d : Nat → Nat} {j : Nat} (h : j ∈ s) : farI s d j = (d j : Int) := if_pos h
theorem farI_out {s : List Nat} {d : Nat → Nat} {j : Nat} (h : j ∉ s) : farI s d j = -1 := if_neg h
theorem farI_first (n e : Nat) : ∀ j, j < n → (if j = e then (0 : Int) else -1) = farI [e] (fun _ => 0) j := fun j _ => by
  unfold farI
  by_cases h : j = e
  · simp [h]
  · simp [h]
theorem farI_more {s : List Nat} {d : Nat → Nat} {i x n : Nat} (hi : i ∉ s) : ∀ j, j < n → (if j = i then ((d x : Int) + 1) else farI s d j) = farI (s ++ [i]) (fun k => if k = i then d x + 1 else d k) j := fun j _ => by
  unfold farI
  by_cases h : j = i
  · subst h
    simp
  · simp [h]
theorem own_one (W : World) (x : Nat) : (W.alloc (.cells #[nv x] 3)).ownsRow W.heap.size 3 1 (.slice (some ⟨W.heap.size, 0, none⟩) 1 1) [x].length ([x].map nv) :=
  ⟨rfl, .inr ⟨W.heap.size, 1, #[nv x], rfl, Nat.le_refl _, by show (W.heap.push _)[W.heap.size]? = _; simp, Nat.le_refl _, by unfold maxLen; omega, rfl, rfl⟩⟩

set_option maxRecDepth 100000 in
set_option maxHeartbeats 16000000 in
theorem grfar_calls {w : World} {l : List Ru} {p bm G : Nat} {vals : Nat → Value} (hS : ShAt w l p bm G vals) (hA : Ru.Apart l) (hn : l.length ≤ 1000) (h12 : ∀ i (hi : i < l.length), l[i].ins.length ≤ 12) (e : Nat) (he : e < l.length) :
    Calls Tryz.prog 42 #[.pointer (some ⟨p, 0, none⟩), .int .i64 e] w fun x w' => ∃ g s d, x = .returned (.slice (some ⟨g, 0, none⟩) l.length l.length) ∧ Ru.Leads l e s d ∧ (∀ j, j < l.length → w'.cell? ⟨g, j, none⟩ = some (.int .i64 (farI s d j))) ∧ Below w.heap.size w w' := by
  obtain ⟨i1, hI, hI0, hI1, hI2⟩ := info_parts Tryz.infoInt
  have htop := hS.c1
  have hlp := lt_of_cell htop
  simp only at hlp
  have HSh := hid1 hS
  have HA := hid1 hA
  have H12 := hid1 h12
  have zn : (l.length : Int) ≤ 1000 := by omega
  have e0 : (0 : Int) ≤ (e : Int) := by omega
  have e1 : (e : Int) < (l.length : Int) := by omega
  have hB0 : Below w.heap.size w (w.alloc (.cells #[.int .i64 (-1)] 3)) := (Below.refl _ w).alloc (Nat.le_refl _) _
  have HR := hid1 (repeatI_calls (w := w.alloc (.cells #[.int .i64 (-1)] 3)) w.heap.size l.length (by simp) (by omega) hn)
  have hz0 : (w.alloc (.cells #[.int .i64 (-1)] 3)).heap.size = w.heap.size + 1 := by simp
  rw [hz0] at HR
  have HB := hid1 hB0
  have HF0 := hid1 (Ru.Bfs.first he)
  clear hS hA h12 hB0
  go_enter Tryz.func42, Tryz.ntmps42
  go_wp2_with fail
  refine HR.out.mono ?_
  rintro x w1 ⟨rfl, hO1, g1⟩
  have hG1 : Below w.heap.size w w1 := HB.out.trans (g1.mono (by omega))
  have hce := hO1.cell he
  have hfe := World.ownsRow.frozenAt hO1 e
  have hsz1 : w.heap.size + 1 < w1.heap.size := (own_lt hO1 (w.heap.size + 1) rfl).2
  have HO2 := hid1 (hO1.set (f' := farI [e] (fun _ => 0)) e 0 (farI_first l.length e))
  have hB2 : Below w.heap.size w (w1.setCell ⟨w.heap.size + 1, e, none⟩ (.int .i64 0)) := hG1.setCell (p := ⟨w.heap.size + 1, e, none⟩) (by simp) _
  have HB2 := hid1 hB2
  clear HR hO1 g1 hB2 HB
  have HN0 : Hid (((w1.setCell ⟨w.heap.size + 1, e, none⟩ (.int .i64 0)).alloc (.cells #[nv e] 3)).ownsRow w1.heap.size 3 1 (.slice (some ⟨w1.heap.size, 0, none⟩) 1 1) [e].length ([e].map nv)) := hid1 (by
    have := own_one (w1.setCell ⟨w.heap.size + 1, e, none⟩ (.int .i64 0)) e
    rwa [show (w1.setCell ⟨w.heap.size + 1, e, none⟩ (.int .i64 0)).heap.size = w1.heap.size by simp] at this)
  have HO3 : Hid (OwnI ((w1.setCell ⟨w.heap.size + 1, e, none⟩ (.int .i64 0)).alloc (.cells #[nv e] 3)) (w.heap.size + 1) (w.heap.size + 1) l.length (farI [e] (fun _ => 0))) := hid1 (World.ownsRow.alloc HO2.out _)
  have HB3 := hid1 (HB2.out.alloc (by have := hG1.size; simpa using this) (.cells #[nv e] 3))
  clear HO2 HB2
  go_wp2
  clear hce hfe
  go_loopw [6, 7] (fun sv av wr => ∃ (a : Nat) (s : List Nat) (d : Nat → Nat), a ≤ s.length ∧ av = .int .i64 a ∧ OwnI wr (w.heap.size + 1) (w.heap.size + 1) l.length (farI s d) ∧ wr.ownsRow w1.heap.size 3 1 sv s.length (s.map nv) ∧ Ru.Bfs l e d s a 0 ∧ Below w.heap.size w wr ∧ w1.heap.size ≤ wr.heap.size) (fun _ av _ => l.length - (intOf av).toNat)
  case atStart => exact ⟨0, [e], fun _ => 0, Nat.zero_le _, rfl, HO3.out, HN0.out, HF0.out, HB3.out, by simp⟩
  case round =>
    clear HO3 HN0 HF0 HB3
    obtain ⟨a, s, d, hal, rfl, hO, hN, hF, B, hz⟩ := hrel
    have HO := hid1 hO
    have HN := hid1 hN
    have HF := hid1 hF
    have hsl := len_le hF.once hF.lt
    clear hO hN hF
    have a0 : (0 : Int) ≤ (a : Int) := by omega
    obtain ⟨pv, cv, rfl⟩ := own_slice HN.out
    by_cases hlt : a < s.length
    · have a1 : (a : Int) < (s.length : Int) := by omega
      have hx := List.getElem?_eq_getElem hlt
      generalize hxe : s[a] = x at *
      clear hxe
      have hbt := cell_below' htop B
      generalize wr = w2 at *
      go_wp2
      go_loopw [6, 33] (fun sv iv wx => ∃ (i : Nat) (s : List Nat) (d : Nat → Nat), i ≤ l.length ∧ iv = .int .i64 i ∧ OwnI wx (w.heap.size + 1) (w.heap.size + 1) l.length (farI s d) ∧ wx.ownsRow w1.heap.size 3 1 sv s.length (s.map nv) ∧ Ru.Bfs l e d s a i ∧ s[a]? = some x ∧ Below w.heap.size w wx ∧ w1.heap.size ≤ wx.heap.size) (fun _ iv _ => l.length - (intOf iv).toNat)
      case atStart => exact ⟨0, s, d, Nat.zero_le _, rfl, HO.out, HN.out, HF.out, hx, B, hz⟩
      case round =>
        clear HO HN HF hx B hsl hal a1 hlt hbt hz
        obtain ⟨i, s, d, hil, rfl, hO, hN, hF, hx, B, hz⟩ := hrel
        have HO := hid1 hO
        have HN := hid1 hN
        have HF := hid1 hF
        have hsl := len_le hF.once hF.lt
        have hlt := (List.getElem?_eq_some_iff.1 hx).1
        have hxs : x ∈ s := List.mem_of_getElem? hx
        have hxl := hF.lt x hxs
        have hdx := (hF.steps x hxs).le
        clear hO hN hF
        have i0 : (0 : Int) ≤ (i : Int) := by omega
        by_cases hilt : i < l.length
        · have i1' : (i : Int) < (l.length : Int) := by omega
          have a1 : (a : Int) < (s.length : Int) := by omega
          obtain ⟨dr, rr⟩ := HSh.out.row i hilt
          have dri := cell_below' dr B
          have hfi := HO.out.cell hilt
          have HC := hid1 (slContainsI_calls (vals i) (Ru.needL l l[i].ins) x (rr.below B) (by have := Ru.needL_len l l[i].ins; have := H12.out i hilt; omega))
          have HD : Hid (decide (x ∈ Ru.needL l l[i].ins) = Ru.needs l i x) := hid1 (by rw [Bool.eq_iff_iff, decide_eq_true_eq]; exact Ru.needL_mem HA.out hilt x)
          rw [HD.out] at HC
          obtain ⟨p3, c3, e3, -⟩ := rr
          rw [e3] at dri HC
          clear e3 HD dr
          generalize (Ru.needL l l[i].ins).length = m3 at *
          obtain ⟨pv2, cv2, rfl⟩ := own_slice HN.out
          obtain ⟨gv, ov, rfl, hgv, hcv⟩ := (NRow.of_owns HN.out).ni.at (by intro e; rw [e] at hlt; simp at hlt)
          have hca : wr.cell? ⟨gv, ov + a, none⟩ = some (nv x) := by
            have := hcv a hlt
            rwa [Option.some.inj ((List.getElem?_eq_getElem hlt).symm.trans hx)] at this
          clear hcv
          by_cases his : i ∈ s
          · rw [farI_in his] at hfi
            have HQ := hid1 (HF.out.skip (.inl his))
            have z1 : (0 : Int) ≤ (d i : Int) := by omega
            clear HF his HC
            go_wp2
            exact ⟨⟨i + 1, s, d, by omega, by go_num, HO.out, HN.out, HQ.out, hx, B, hz⟩, by simp [intOf]; omega⟩
          · rw [farI_out his] at hfi
            cases hnd : Ru.needs l i x with
            | false =>
              rw [hnd] at HC
              have HQ := hid1 (HF.out.skip (.inr fun y hy => by rw [← Option.some.inj (hx.symm.trans hy)]; exact hnd))
              clear HF his hnd
              go_wp2_with fail
              refine HC.out.mono ?_
              rintro ee w5 ⟨rfl, rfl⟩
              clear HC
              go_wp2
              exact ⟨⟨i + 1, s, d, by omega, by go_num, HO.out, HN.out, HQ.out, hx, B, hz⟩, by simp [intOf]; omega⟩
            | true =>
              rw [hnd] at HC
              have HQ := hid1 (HF.out.add hilt hx his hnd)
              have HO2 := hid1 (HO.out.set i ((d x : Int) + 1) (farI_more (x := x) his))
              have hfx := HO.out.cell hxl
              rw [farI_in hxs] at hfx
              have hfz := World.ownsRow.frozenAt HO.out i
              have hfar : Value.ownBlock (.slice (some ⟨gv, ov, none⟩) s.length cv2) ≠ some (w.heap.size + 1) := fun e => by have := (own_lt HN.out _ e).1; omega
              have hR : (wr.setCell ⟨w.heap.size + 1, i, none⟩ (.int .i64 ((d x : Int) + 1))).ownsRow w1.heap.size 3 1 (.slice (some ⟨gv, ov, none⟩) s.length cv2) s.length (s.map nv) := ownsRow_setCell_other HN.out (by simpa using hfar) _
              have hB4 : Below w.heap.size w (wr.setCell ⟨w.heap.size + 1, i, none⟩ (.int .i64 ((d x : Int) + 1))) := B.setCell (p := ⟨w.heap.size + 1, i, none⟩) (by simp) _
              have hx2 : (s ++ [i])[a]? = some x := by rw [List.getElem?_append_left hlt]; exact hx
              have hml3 : s.length + 1 ≤ maxLen := by unfold maxLen; omega
              have x0 : (0 : Int) ≤ (x : Int) := by omega
              have x1 : (x : Int) < (l.length : Int) := by omega
              have zd : (d x : Int) ≤ 1000 := by omega
              clear HF his hnd
              go_wp2_with fail
              refine HC.out.mono ?_
              rintro ee w5 ⟨rfl, rfl⟩
              clear HC
              go_wp2_with (first
                | (at_builtin; refine wpList_append_own _ rfl _ _ 25 rfl w1.heap.size 3 i1 (.int .i64 0) 1 8 Tryz.underlying25 hI hI0 hI1 hI2 rfl (by decide) _ _ _ rfl (hR.alloc _) ⟨w5.heap.size, 0, none⟩ 1 1 [nv i] rfl rfl (one_new _ _ _ _ (by simp)) (by simp [Value.oneCell']) hml3 (by omega) (by simp; omega) ?_; intro v6 w6 hown6 hgrow6 _)
                | go_in)
              have HO6 : OwnI w6 (w.heap.size + 1) (w.heap.size + 1) l.length (farI (s ++ [i]) (fun k => if k = i then d x + 1 else d k)) := World.ownsRow.kept (World.ownsRow.alloc HO2.out _) hgrow6 (.inr (fun e => hfar e.symm))
              have hz6 : w1.heap.size ≤ w6.heap.size := by have := hgrow6.size; simp at this; omega
              have hB6 : Below w.heap.size w w6 := (hB4.alloc hB4.size _).grown hgrow6 (by have := hB4.size; simp at this ⊢; omega) (fun j ej => by have := (own_lt HN.out j ej).1; have := hG1.size; omega)
              exact ⟨⟨i + 1, s ++ [i], _, by omega, by go_num, HO6, by simpa using hown6, HQ.out, hx2, hB6, hz6⟩, by simp [intOf]; omega⟩
        · have i1' : (l.length : Int) ≤ (i : Int) := by omega
          obtain rfl : i = l.length := by omega
          have HQ := hid1 (HF.out.next hlt)
          clear HF
          go_wp2
          exact ⟨⟨a + 1, s, d, by omega, by go_num, HO.out, HN.out, HQ.out, B, hz⟩, by simp [intOf]; omega⟩
    · have a1 : (s.length : Int) ≤ (a : Int) := by omega
      have HQ := hid1 (HF.out.done (by omega))
      have HCe := hid1 fun j (hj : j < l.length) => HO.out.cell hj
      clear HF HO HN
      go_wp2
      go_ret
      exact ⟨_, s, d, rfl, HQ.out, HCe.out, B⟩
end Go.Proofs.YtmeplgihnlpjcaaGreatDoor
/- The library's functions that package graph's nearest calls. -/
namespace Go.Proofs.YtmeplgihnlpjcaaGreatDoor
open Go.RowKit Go.Shelf Go.Lib
open Go.Sort (Holds putRow grow)

/-- slices.Clone over numbers. -/
theorem cloneI_calls {w : World} (v : Value) (l : List Nat) (hrow : NIRow w v l) (hl : l.length ≤ 1000) :
    Calls Tryz.prog 63 #[v] w fun e w' => ∃ v', e = .returned v' ∧ w'.ownsRow w.heap.size 3 1 v' l.length (l.map nv) ∧ Below w.heap.size w w' := by
  obtain ⟨p, cap, rfl, h1⟩ := hrow
  by_cases he : l = []
  · subst he
    cases p with
    | none =>
      refine (Tryz.slices_Clone_int_nil 0 cap w).mono ?_
      rintro e w' ⟨rfl, rfl⟩
      exact ⟨_, rfl, World.ownsRow_nil _ _ _ _, Below.refl _ _⟩
    | some a =>
      refine (Tryz.slices_Clone_int_zero a cap w).mono ?_
      rintro e w' ⟨v', rfl, ho, _, hb⟩
      exact ⟨v', rfl, ho, hb⟩
  · obtain ⟨g, o, rfl, hg, hc⟩ := h1 he
    have h := Tryz.slices_Clone_int g o l.length cap (ints l) w (by simp) (by omega) (fun j hj => by
      have hj' : j < l.length := by simpa using hj
      rw [hc j hj']
      simp [hj'])
    refine h.mono ?_
    rintro e w' ⟨v', rfl, ho, _, hb⟩
    refine ⟨v', rfl, ?_, hb⟩
    have e1 : ((ints l).take l.length).map (Value.int .i64) = l.map nv := by
      rw [List.take_of_length_le (by simp), List.map_map]
      rfl
    rw [e1] at ho
    exact ho

/-- Numbers below n. -/
abbrev Few (n : Nat) : Type := { x : Nat // x < n }
abbrev encF (n : Nat) : Few n → Value := fun x => nv x.1
def fews (n : Nat) (L : List Nat) (h : ∀ x ∈ L, x < n) : List (Few n) := L.attach.map fun x => ⟨x.1, h x.1 x.2⟩
theorem fews_val (n : Nat) (L : List Nat) (h : ∀ x ∈ L, x < n) : (fews n L h).map (·.1) = L := by
  unfold fews
  rw [List.map_map]
  exact List.attach_map_subtype_val L
theorem fews_len (n : Nat) (L : List Nat) (h : ∀ x ∈ L, x < n) : (fews n L h).length = L.length := by
  rw [← congrArg List.length (fews_val n L h), List.length_map]
theorem fews_get (n : Nat) (L : List Nat) (h : ∀ x ∈ L, x < n) (j : Nat) (hj : j < L.length) (hj' : j < (fews n L h).length) : ((fews n L h)[j]).1 = L[j] := by
  have := congrArg (fun z => z[j]?) (fews_val n L h)
  simp only [List.getElem?_map, List.getElem?_eq_getElem hj', List.getElem?_eq_getElem hj, Option.map_some] at this
  exact Option.some.inj this
theorem fews_filter (n : Nat) (L : List Nat) (h : ∀ x ∈ L, x < n) (p : Nat → Bool) : ((fews n L h).filter fun x => p x.1).map (·.1) = L.filter p := by
  conv => rhs; rw [← fews_val n L h]
  rw [List.filter_map]
  rfl

set_option maxRecDepth 100000 in
set_option maxHeartbeats 2000000 in
/-- nearest's first function: does a rule not lead to the end? -/
theorem near1_gives (n : Nat) (s : List Nat) (d : Nat → Nat) (x : Few n) (b g : Nat) (W : World) (hb : W.cell? ⟨b, 0, none⟩ = some (.slice (some ⟨g, 0, none⟩) n n)) (hc : W.cell? ⟨g, x.1, none⟩ = some (.int .i64 (farI s d x.1))) :
    FnGives Tryz.prog 64 #[.pointer (some ⟨b, 0, none⟩)] #[encF n x] (.bool (!decide (x.1 ∈ s))) W := by
  obtain ⟨x, hx⟩ := x
  suffices goal : Calls Tryz.prog 64 #[nv x, .pointer (some ⟨b, 0, none⟩)] W fun e w' => e = .returned (.bool !decide (x ∈ s)) ∧ w' = W from Calls.mono goal fun e w' ⟨h1, h2⟩ => ⟨h1, 0, h2⟩
  have x0 : (0 : Int) ≤ (x : Int) := by omega
  have x1 : (x : Int) < (n : Int) := by omega
  have hc' : W.cell? ⟨g, x, none⟩ = some (.int .i64 (farI s d x)) := hc
  clear hc
  by_cases h : x ∈ s
  · rw [farI_in h] at hc'
    rw [decide_eq_true h]
    have z : (0 : Int) ≤ (d x : Int) := by omega
    clear h
    go_enter Tryz.func64, Tryz.ntmps64
    go_wp2
    go_ret
    exact ⟨rfl, rfl⟩
  · rw [farI_out h] at hc'
    rw [decide_eq_false h]
    clear h
    go_enter Tryz.func64, Tryz.ntmps64
    go_wp2
    go_ret
    exact ⟨rfl, rfl⟩

set_option maxRecDepth 100000 in
set_option maxHeartbeats 4000000 in
/-- cmp.Or of two numbers. -/
theorem cmpOr_calls {w : World} (g : Nat) (a b : Int) (h0 : w.cell? ⟨g, 0, none⟩ = some (.int .i64 a)) (h1 : w.cell? ⟨g, 1, none⟩ = some (.int .i64 b)) :
    Calls Tryz.prog 67 #[.slice (some ⟨g, 0, none⟩) 2 2] w fun e w' => e = .returned (.int .i64 (if a ≠ 0 then a else b)) ∧ w' = w := by
  go_enter Tryz.func67, Tryz.ntmps67
  go_wp2
  go_loopw [8] (fun i wr => ∃ k : Nat, k ≤ 2 ∧ i = .int .i64 k ∧ (1 ≤ k → a = 0) ∧ (2 ≤ k → b = 0) ∧ w = wr) (fun i _ => 2 - (intOf i).toNat)
  case atStart => exact ⟨0, by omega, rfl, fun h => by omega, fun h => by omega, rfl⟩
  case round =>
    obtain ⟨k, hk, rfl, ha, hb, rfl⟩ := hrel
    rcases (by omega : k = 0 ∨ k = 1 ∨ k = 2) with rfl | rfl | rfl
    · clear ha hb
      by_cases h : a = 0
      · subst h
        go_wp2
        exact ⟨⟨1, by omega, by go_num, by simp, by simp, by first | rfl | trivial⟩, by simp [intOf]⟩
      · have e1 : (a == 0) = false := by simpa using h
        go_wp2
        go_ret
        exact ⟨by simp, rfl⟩
    · obtain rfl := ha (by omega)
      clear ha hb
      by_cases h : b = 0
      · subst h
        go_wp2
        exact ⟨⟨2, by omega, by go_num, by simp, by simp, by first | rfl | trivial⟩, by simp [intOf]⟩
      · have e1 : (b == 0) = false := by simpa using h
        go_wp2
        go_ret
        exact ⟨by simp, rfl⟩
    · obtain rfl := ha (by omega)
      obtain rfl := hb (by omega)
      clear ha hb
      go_wp2
      go_ret
      exact ⟨by simp, rfl⟩

set_option maxRecDepth 100000 in
set_option maxHeartbeats 4000000 in
/-- slices.DeleteFunc at no slice. -/
theorem deleteNil_calls {w : World} (f : Nat) (caps : Array Value) (eg : ∀ args w, (callFunc f args).run Tryz.prog w = .ok (.enter f args) w) :
    Calls Tryz.prog 62 #[.slice none 0 0, .func (.func f) #[] caps] w fun e w' => e = .returned (.slice none 0 0) ∧ Below w.heap.size w w' := by
  have HC := hid1 (indexFuncI_calls (w := w) (.slice none 0 0) [] ⟨none, 0, rfl, fun h => absurd rfl h⟩ (by simp) f caps eg (fun _ => false) (hid1 fun x hx => by simp at hx))
  go_enter Tryz.func62, Tryz.ntmps62
  go_wp2_with fail
  refine HC.out.mono ?_
  rintro e w1 ⟨r, rfl, hb, h⟩
  rcases h with ⟨rfl, -⟩ | ⟨k, -, hk, -⟩
  · clear HC
    go_wp2
    go_ret
    exact ⟨rfl, hb⟩
  · simp at hk

/-- slices.DeleteFunc with nearest's first function: those that lead to the end stay. -/
theorem deleteF_calls {W : World} {B : Nat} (hBw : B ≤ W.heap.size) (v : Value) (n : Nat) (hpos : 0 < n) (s : List Nat) (d : Nat → Nat) (L : List Nat) (hL : ∀ x ∈ L, x < n) (hl : L.length ≤ 1000) (b g : Nat) (hb : W.cell? ⟨b, 0, none⟩ = some (.slice (some ⟨g, 0, none⟩) n n)) (hc : ∀ j, j < n → W.cell? ⟨g, j, none⟩ = some (.int .i64 (farI s d j))) (hbB : b < B) (hgB : g < B)
    (hown : W.ownsRow B 3 1 v L.length (L.map nv)) :
    Calls Tryz.prog 62 #[v, .func (.func 64) #[] #[.pointer (some ⟨b, 0, none⟩)]] W fun e w' => ∃ v', e = .returned v' ∧ NIRow w' v' (L.filter fun x => decide (x ∈ s)) ∧ Below B W w' := by
  rcases hown.2 with ⟨rfl, hn0⟩ | ⟨gk, cap, cur, rfl, hBg, hblk, hcap, -⟩
  · obtain rfl := List.length_eq_zero_iff.1 hn0
    refine (deleteNil_calls (w := W) 64 #[.pointer (some ⟨b, 0, none⟩)] (enters_of Tryz.func64 (by kernel_rfl) rfl)).mono ?_
    rintro e w' ⟨rfl, hb'⟩
    exact ⟨_, rfl, ⟨none, 0, rfl, fun h => absurd rfl h⟩, hb'.mono hBw⟩
  · have hgl : gk < W.heap.size := (Array.getElem?_eq_some_iff.1 hblk).1
    letI : Inhabited (Few n) := ⟨⟨0, hpos⟩⟩
    have hOwn := Holds.of_owns hown
    have hH : Holds (encF n) W gk 0 (fews n L hL).toArray := fun j hj => by
      have hj' : j < L.length := by simpa [fews_len] using hj
      obtain ⟨c1, c2⟩ := hOwn.1 j (by simpa using hj')
      refine ⟨?_, c2⟩
      rw [c1, ints_get hj']
      have hj2 : j < (fews n L hL).length := by rw [fews_len]; exact hj'
      have e : (fews n L hL).toArray[j]! = (fews n L hL)[j] := by simp [hj2]
      rw [e]
      show _ = some (nv ((fews n L hL)[j]).1)
      rw [fews_get n L hL j hj' hj2]
    have key := Tryz.slices_DeleteFuncI (encF n) (fun _ => rfl) (fun x => !decide (x.1 ∈ s)) 64 #[.pointer (some ⟨b, 0, none⟩)] (enters_of Tryz.func64 (by kernel_rfl) rfl) ⟨0, hpos⟩ (fun w => Tryz.zeroValue3 w) gk 0 cap (fews n L hL).toArray W
      (fun V x hV => near1_gives n s d x b g V (cell_below' hb hV) (cell_below' (hc x.1 x.2) hV))
      (fun m os dk x _ => by
        have o : ∀ k j, k ≠ gk → k < W.heap.size → (sortWorld (encF n) W gk 0 m dk os).cell? ⟨k, j, none⟩ = W.cell? ⟨k, j, none⟩ := fun k j h1 h2 => by
          unfold sortWorld
          rw [Go.Sort.cell?_grow _ _ _ (by show k < (putRow _ _ _ _ _).heap.size; rw [Go.Sort.size_putRow]; exact h2), Go.Sort.cell?_putRow_other _ _ gk 0 _ _ (Or.inl h1)]
          rfl
        exact near1_gives n s d x b g _ ((o b 0 (by omega) (by omega)).trans hb) ((o g _ (by omega) (by omega)).trans (hc x.1 x.2)))
      hH (by simp [fews_len]; omega) (by simp [fews_len]; exact hcap)
    have e0 : (fews n L hL).toArray.size = L.length := by simp [fews_len]
    rw [e0] at key
    refine Calls.mono key ?_
    rintro e w' ⟨rfl, q, rfl⟩
    have e1 : ((fews n L hL).toArray.toList.filter fun x => !(!decide (x.1 ∈ s))) = (fews n L hL).filter fun x => decide (x.1 ∈ s) := by simp
    rw [e1]
    have e2 : ((fews n L hL).filter fun x => decide (x.1 ∈ s)).map (·.1) = L.filter fun x => decide (x ∈ s) := fews_filter n L hL fun x => decide (x ∈ s)
    have hlen : ((fews n L hL).filter fun x => decide (x.1 ∈ s)).length = (L.filter fun x => decide (x ∈ s)).length := by rw [← e2, List.length_map]
    have hle : (L.filter fun x => decide (x ∈ s)).length ≤ L.length := List.length_filter_le _ _
    have hp := Go.Sort.holds_putRow (encF n) (Sort.ahead W q) gk 0 (fews n L hL).toArray (((fews n L hL).filter fun x : Few n => decide (x.1 ∈ s)) ++ List.replicate (L.length - ((fews n L hL).filter fun x : Few n => decide (x.1 ∈ s)).length) (⟨0, hpos⟩ : Few n)).toArray hH (by simp only [List.size_toArray, List.length_append, List.length_replicate, fews_len]; rw [hlen]; omega)
    refine ⟨_, rfl, ⟨some ⟨gk, 0, none⟩, cap, by rw [hlen], fun _ => ⟨gk, 0, rfl, by rw [Go.Sort.size_putRow]; exact hgl, fun k hk => ?_⟩⟩, ?_⟩
    · have hk' : k < ((fews n L hL).filter fun x => decide (x.1 ∈ s)).length := by rw [hlen]; exact hk
      have p1 := (hp k (by simp; omega)).1
      rw [p1]
      have e3 : (((fews n L hL).filter fun x : Few n => decide (x.1 ∈ s)) ++ List.replicate (L.length - ((fews n L hL).filter fun x : Few n => decide (x.1 ∈ s)).length) (⟨0, hpos⟩ : Few n)).toArray[k]! = ((fews n L hL).filter fun x => decide (x.1 ∈ s))[k] := by
        simp [List.getElem?_append_left hk', hk']
      rw [e3]
      have e4 : (((fews n L hL).filter fun x => decide (x.1 ∈ s))[k]).1 = (L.filter fun x => decide (x ∈ s))[k] := by
        have := congrArg (fun z => z[k]?) e2
        simp only [List.getElem?_map, List.getElem?_eq_getElem hk', List.getElem?_eq_getElem hk, Option.map_some] at this
        exact Option.some.inj this
      show some (nv _) = _
      rw [e4]
    · refine (Below.refl B W).grown (row := some gk) ⟨rfl, rfl, rfl, by rw [Go.Sort.size_putRow]; exact Nat.le_refl _, fun k _ hk => ?_⟩ hBw (fun j hj => by cases hj; exact hBg)
      have : gk ≠ k := fun e => hk (by rw [e])
      simp [putRow, Go.Sort.mapBlock, Sort.ahead, Array.getElem?_modify, this]
end Go.Proofs.YtmeplgihnlpjcaaGreatDoor
/- Package graph's nearest: the walks. -/
namespace Go.Proofs.YtmeplgihnlpjcaaGreatDoor
open Go.RowKit Go.Shelf Go.Lib

set_option maxRecDepth 100000 in
set_option maxHeartbeats 4000000 in
/-- slices.MinFunc over numbers. -/
theorem minFuncI_calls {w : World} (v : Value) (l : List Nat) (hrow : NIRow w v l) (hl : l.length ≤ 1000000) (hne : l ≠ []) (f : Nat) (caps : Array Value) (eg : ∀ args w, (callFunc f args).run Tryz.prog w = .ok (.enter f args) w) (c : Nat → Nat → Int)
    (htr : ∀ x y z, c x y < 0 → c y z < 0 → c x z < 0) (hir : ∀ x, 0 ≤ c x x)
    (HS : Hid (∀ x ∈ l, ∀ y ∈ l, ∀ W, Below w.heap.size w W → Calls Tryz.prog f (#[nv x, nv y] ++ caps) W fun e w' => e = .returned (.int .i64 (c x y)) ∧ Below W.heap.size W w')) :
    Calls Tryz.prog 65 #[v, .func (.func f) #[] caps] w fun e w' => ∃ y : Nat, e = .returned (nv y) ∧ Below w.heap.size w w' ∧ y ∈ l ∧ ∀ z ∈ l, 0 ≤ c z y := by
  obtain ⟨p, cap, rfl, hin⟩ := hrow
  obtain ⟨g, o, rfl, hg, hc⟩ := hin hne
  have hpos : 0 < l.length := List.length_pos_iff.2 hne
  have hc0 := hc 0 hpos
  rw [Nat.add_zero] at hc0
  have HC := hid1 hc
  have HT := hid1 htr
  have HR := hid1 hir
  have zl : (l.length : Int) ≤ 1000000 := by omega
  have zp : (1 : Int) ≤ (l.length : Int) := by omega
  have zp2 : (0 : Int) < (l.length : Int) := by omega
  have hm0 : l[0] ∈ l := List.getElem_mem hpos
  have HM0 : Hid (∀ z ∈ l.take 1, 0 ≤ c z l[0]) := hid1 fun z hz => by
    rw [List.take_succ_eq_append_getElem hpos] at hz
    simp at hz
    rw [hz]
    exact hir _
  clear hin hc htr hir hne
  generalize hy0 : l[0] = y0 at *
  clear hy0
  go_enter Tryz.func65, Tryz.ntmps65
  go_wp2
  go_loopw [5, 6] (fun mv iv wr => ∃ (y k : Nat), 1 ≤ k ∧ k ≤ l.length ∧ iv = .int .i64 k ∧ mv = nv y ∧ y ∈ l ∧ (∀ z ∈ l.take k, 0 ≤ c z y) ∧ Below w.heap.size w wr) (fun _ iv _ => l.length - (intOf iv).toNat)
  case atStart => exact ⟨y0, 1, Nat.le_refl _, hpos, rfl, rfl, hm0, HM0.out, Below.refl _ _⟩
  case round =>
    clear HM0 hm0 hc0
    obtain ⟨y, k, hk1, hk, rfl, rfl, hy, hz, hB⟩ := hrel
    have HZ := hid1 hz
    clear hz
    have k0 : (0 : Int) ≤ (k : Int) := by omega
    by_cases hlt : k < l.length
    · have k1 : (k : Int) < (l.length : Int) := by omega
      have d0 := (hB.cell (p := ⟨g, o + k, none⟩) hg).trans (HC.out k hlt)
      have HF := HS.out l[k] (List.getElem_mem hlt) y hy wr hB
      have hkm : l[k] ∈ l := List.getElem_mem hlt
      have HN : Hid (0 ≤ c l[k] y → ∀ z ∈ l.take (k + 1), 0 ≤ c z y) := hid1 fun h z hz => by
        rw [List.take_succ_eq_append_getElem hlt] at hz
        rcases List.mem_append.1 hz with h1 | h1
        · exact HZ.out z h1
        · rw [List.mem_singleton.1 h1]; exact h
      have HP : Hid (c l[k] y < 0 → ∀ z ∈ l.take (k + 1), 0 ≤ c z l[k]) := hid1 fun h z hz => by
        rw [List.take_succ_eq_append_getElem hlt] at hz
        rcases List.mem_append.1 hz with h1 | h1
        · refine Int.not_lt.1 fun h2 => ?_
          have h3 := HZ.out z h1
          have h4 := HT.out z l[k] y h2 h
          omega
        · rw [List.mem_singleton.1 h1]; exact HR.out _
      clear HZ HS HC
      generalize l[k] = x at *
      by_cases hcx : c x y < 0
      · have HQ := hid1 (HP.out hcx)
        clear HN HP
        generalize c x y = cv at *
        go_wp2_with fail
        refine Calls.mono HF ?_
        rintro e w1 ⟨rfl, hb1⟩
        have hB1 := below_then hB hb1
        have d1 := cell_below' d0 hb1
        clear HF hb1 d0
        go_wp2
        exact ⟨⟨x, k + 1, by omega, by omega, by go_num, rfl, hkm, HQ.out, hB1⟩, by simp [intOf]; omega⟩
      · have hcx' : 0 ≤ c x y := by omega
        have HQ := hid1 (HN.out hcx')
        clear HN HP hcx
        generalize c x y = cv at *
        go_wp2_with fail
        refine Calls.mono HF ?_
        rintro e w1 ⟨rfl, hb1⟩
        have hB1 := below_then hB hb1
        clear HF hb1
        go_wp2
        exact ⟨⟨y, k + 1, by omega, by omega, by go_num, rfl, hy, HQ.out, hB1⟩, by simp [intOf]; omega⟩
    · have k1 : (l.length : Int) ≤ (k : Int) := by omega
      have HQ : Hid (∀ z ∈ l, 0 ≤ c z y) := hid1 fun z hz => HZ.out z (by rwa [List.take_of_length_le (by omega)])
      clear HZ HS HC
      go_wp2
      go_ret
      exact ⟨y, rfl, hB, hy, HQ.out⟩

/-- Which one is nearer, of two the lesser one. -/
def nearC (d : Nat → Nat) (x y : Nat) : Int := if (d x : Int) - (d y : Int) ≠ 0 then (d x : Int) - (d y : Int) else (x : Int) - (y : Int)
theorem nearC_lt (d : Nat → Nat) (x y : Nat) : nearC d x y < 0 ↔ d x < d y ∨ (d x = d y ∧ x < y) := by
  unfold nearC
  split <;> omega
theorem nearC_trans (d : Nat → Nat) (x y z : Nat) (h1 : nearC d x y < 0) (h2 : nearC d y z < 0) : nearC d x z < 0 := by
  rw [nearC_lt] at h1 h2 ⊢
  omega
theorem nearC_irr (d : Nat → Nat) (x : Nat) : 0 ≤ nearC d x x := by
  unfold nearC
  split <;> omega

set_option maxRecDepth 100000 in
set_option maxHeartbeats 8000000 in
/-- nearest's second function. -/
theorem grnearest2_calls {W : World} (n : Nat) (hn : n ≤ 1000) (s : List Nat) (d : Nat → Nat) (b g x y : Nat) (hb : W.cell? ⟨b, 0, none⟩ = some (.slice (some ⟨g, 0, none⟩) n n)) (hc : ∀ j, j < n → W.cell? ⟨g, j, none⟩ = some (.int .i64 (farI s d j))) (hx : x < n) (hy : y < n) (hxs : x ∈ s) (hys : y ∈ s) (hdx : d x ≤ 1000) (hdy : d y ≤ 1000) :
    Calls Tryz.prog 66 #[nv x, nv y, .pointer (some ⟨b, 0, none⟩)] W fun e w' => e = .returned (.int .i64 (nearC d x y)) ∧ Below W.heap.size W w' := by
  have cx := hc x hx
  have cy := hc y hy
  rw [farI_in hxs] at cx
  rw [farI_in hys] at cy
  have HO := hid1 fun (V : World) (k : Nat) (h0 : V.cell? ⟨k, 0, none⟩ = some (.int .i64 ((d x : Int) - (d y : Int)))) (h1 : V.cell? ⟨k, 1, none⟩ = some (.int .i64 ((x : Int) - (y : Int)))) => cmpOr_calls k ((d x : Int) - (d y : Int)) ((x : Int) - (y : Int)) h0 h1
  have e0 : (if (d x : Int) - (d y : Int) ≠ 0 then (d x : Int) - (d y : Int) else (x : Int) - (y : Int)) = nearC d x y := rfl
  rw [e0] at HO
  have q1 : IntKind.i64.wrap ((d x : Int) - (d y : Int)) = (d x : Int) - (d y : Int) := by rw [IntKind.wrap_i64]; omega
  have q2 : IntKind.i64.wrap ((x : Int) - (y : Int)) = (x : Int) - (y : Int) := by rw [IntKind.wrap_i64]; omega
  have x0 : (0 : Int) ≤ (x : Int) := by omega
  have x1 : (x : Int) < (n : Int) := by omega
  have y0 : (0 : Int) ≤ (y : Int) := by omega
  have y1 : (y : Int) < (n : Int) := by omega
  generalize nearC d x y = cv at *
  clear hc e0 hxs hys
  go_enter Tryz.func66, Tryz.ntmps66
  go_wp2
  go_region_held3 (fun w' => w'.cell? ⟨b, 0, none⟩ = some (.slice (some ⟨g, 0, none⟩) n n) ∧ w'.cell? ⟨g, x, none⟩ = some (.int .i64 (d x : Int)) ∧ w'.cell? ⟨g, y, none⟩ = some (.int .i64 (d y : Int))) (first | go_keep | fail)
    (first | (go_at_call 67; refine (HO.out _ W.heap.size (by simp) (by simp)).mono ?_; rintro e w5 ⟨rfl, rfl⟩) | fail)
  all_goals
    go_wp2
    go_ret
    exact ⟨rfl, ((Below.refl _ W).alloc (Nat.le_refl _) _).drew⟩

set_option maxRecDepth 100000 in
set_option maxHeartbeats 8000000 in
/-- nearest: of some rules the one that is nearest to the end. -/
theorem grnearest_calls {w : World} (vl : Value) (ll : List Nat) (hrow : NIRow w vl ll) (hll : ll.length ≤ 12) (g n : Nat) (hpos : 0 < n) (hn : n ≤ 1000) (s : List Nat) (d : Nat → Nat) (hlt : ∀ x ∈ ll, x < n) (hd : ∀ k ∈ s, d k ≤ 1000) (hc : ∀ j, j < n → w.cell? ⟨g, j, none⟩ = some (.int .i64 (farI s d j))) :
    Calls Tryz.prog 43 #[vl, .slice (some ⟨g, 0, none⟩) n n] w fun e w' => Below w.heap.size w w' ∧ ((e = .returned (.tuple #[.int .i64 0, .bool false]) ∧ ∀ x ∈ ll, x ∉ s) ∨ ∃ y : Nat, e = .returned (.tuple #[nv y, .bool true]) ∧ y ∈ ll ∧ y ∈ s ∧ ∀ z ∈ ll, z ∈ s → d y < d z ∨ (d y = d z ∧ y ≤ z)) := by
  have hB0 : Below w.heap.size w (w.alloc (.cells #[.slice (some ⟨g, 0, none⟩) n n] 25)) := (Below.refl _ w).alloc (Nat.le_refl _) _
  have hb0 : (w.alloc (.cells #[.slice (some ⟨g, 0, none⟩) n n] 25)).cell? ⟨w.heap.size, 0, none⟩ = some (.slice (some ⟨g, 0, none⟩) n n) := by simp
  have hz0 : (w.alloc (.cells #[.slice (some ⟨g, 0, none⟩) n n] 25)).heap.size = w.heap.size + 1 := by simp
  have hgl : g < w.heap.size := lt_of_cell (hc 0 hpos)
  have HCl := hid1 (cloneI_calls (w := w.alloc (.cells #[.slice (some ⟨g, 0, none⟩) n n] 25)) vl ll (hrow.below hB0) (by omega))
  have HDe := hid1 fun (W : World) (v : Value) (hb : Below (w.heap.size + 1) (w.alloc (.cells #[.slice (some ⟨g, 0, none⟩) n n] 25)) W) (ho : W.ownsRow (w.heap.size + 1) 3 1 v ll.length (ll.map nv)) =>
    deleteF_calls (W := W) (B := w.heap.size + 1) (by have := hb.size; omega) v n hpos s d ll hlt (by omega) w.heap.size g ((World.cell?_of_block (a := ⟨w.heap.size, 0, none⟩) (hb.block w.heap.size (by omega))).trans hb0) (fun j hj => (World.cell?_of_block (a := ⟨g, j, none⟩) (hb.block g (by omega))).trans (cell_below' (hc j hj) hB0)) (by omega) (by omega) ho
  have HMi := hid1 fun (W : World) (v : Value) (hb : Below (w.heap.size + 1) (w.alloc (.cells #[.slice (some ⟨g, 0, none⟩) n n] 25)) W) (hr : NIRow W v (ll.filter fun x => decide (x ∈ s))) (hne : (ll.filter fun x => decide (x ∈ s)) ≠ []) =>
    minFuncI_calls (w := W) v (ll.filter fun x => decide (x ∈ s)) hr (by have := List.length_filter_le (fun x => decide (x ∈ s)) ll; omega) hne 66 #[.pointer (some ⟨w.heap.size, 0, none⟩)] (enters_of Tryz.func66 (by kernel_rfl) rfl) (nearC d) (nearC_trans d) (nearC_irr d)
      (hid1 fun x hx y hy V gV => by
        have h1 := List.mem_filter.1 hx
        have h2 := List.mem_filter.1 hy
        have hxs : x ∈ s := by simpa using h1.2
        have hys : y ∈ s := by simpa using h2.2
        have hbW : W.cell? ⟨w.heap.size, 0, none⟩ = some (.slice (some ⟨g, 0, none⟩) n n) := (World.cell?_of_block (a := ⟨w.heap.size, 0, none⟩) (hb.block w.heap.size (by omega))).trans hb0
        exact grnearest2_calls n hn s d w.heap.size g x y (cell_below' hbW gV) (fun j hj => cell_below' ((World.cell?_of_block (a := ⟨g, j, none⟩) (hb.block g (by omega))).trans (cell_below' (hc j hj) hB0)) gV) (hlt x h1.1) (hlt y h2.1) hxs hys (hd x hxs) (hd y hys))
  have HNo : Hid ((ll.filter fun x => decide (x ∈ s)) = [] → ∀ x ∈ ll, x ∉ s) := hid1 fun h x hx hxs => by
    have : x ∈ ll.filter fun x => decide (x ∈ s) := List.mem_filter.2 ⟨hx, by simpa using hxs⟩
    rw [h] at this
    simp at this
  have HYes : Hid (∀ y, y ∈ (ll.filter fun x => decide (x ∈ s)) → (∀ z ∈ (ll.filter fun x => decide (x ∈ s)), 0 ≤ nearC d z y) → y ∈ ll ∧ y ∈ s ∧ ∀ z ∈ ll, z ∈ s → d y < d z ∨ (d y = d z ∧ y ≤ z)) := hid1 fun y hy hz => by
    have h1 := List.mem_filter.1 hy
    refine ⟨h1.1, by simpa using h1.2, fun z hzl hzs => ?_⟩
    have h0 := hz z (List.mem_filter.2 ⟨hzl, by simpa using hzs⟩)
    have := mt (nearC_lt d z y).2 (by omega)
    omega
  have hfl := List.length_filter_le (fun x => decide (x ∈ s)) ll
  generalize hFL : (ll.filter fun x => decide (x ∈ s)) = fl at *
  obtain ⟨pl, cl, rfl, -⟩ := hrow
  clear hlt hd hc hFL hb0
  go_enter Tryz.func43, Tryz.ntmps43
  go_wp2_with fail
  refine HCl.out.mono ?_
  rintro e w1 ⟨v1, rfl, ho1, g1⟩
  rw [hz0] at ho1 g1
  have HD := hid1 (HDe.out w1 v1 g1 ho1)
  clear HCl HDe ho1
  go_wp2_with fail
  refine HD.out.mono ?_
  rintro e w2 ⟨v2, rfl, hr2, g2⟩
  have G2 := g1.trans g2
  have GW : Below w.heap.size w w2 := hB0.trans (G2.mono (by omega))
  clear HD g2
  by_cases hem : fl = []
  · have HQ := hid1 (HNo.out hem)
    obtain ⟨p2, c2, rfl, -⟩ := hr2
    subst hem
    clear HMi HNo HYes g1
    simp only [List.length_nil]
    go_wp2
    go_ret2
    exact ⟨GW, .inl ⟨rfl, HQ.out⟩⟩
  · have HM := hid1 (HMi.out w2 v2 G2 hr2 hem)
    have hlp : 0 < fl.length := List.length_pos_iff.2 hem
    have hl0 : ¬ fl.length = 0 := by omega
    have hl1 : ((fl.length : Int) == 0) = false := by simp; omega
    obtain ⟨p2, c2, rfl, -⟩ := hr2
    clear HMi HNo g1
    go_wp2_with fail
    refine HM.out.mono ?_
    rintro e w3 ⟨y, rfl, g3, hy, hz⟩
    have HQ := hid1 (HYes.out y hy hz)
    have G3 := below_then GW g3
    clear HM hy hz HYes
    go_wp2
    go_ret2
    exact ⟨G3, .inr ⟨y, rfl, HQ.out⟩⟩
end Go.Proofs.YtmeplgihnlpjcaaGreatDoor
