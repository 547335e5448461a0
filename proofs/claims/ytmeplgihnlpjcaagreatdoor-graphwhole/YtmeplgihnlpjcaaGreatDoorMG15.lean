/- Package graph's Order: the walks. -/
import Derived.Test.YtmeplgihnlpjcaaGreatDoorMG10
import Derived.Test.YtmeplgihnlpjcaaGreatDoorGLook
import Derived.Test.YtmeplgihnlpjcaaGreatDoorMG13
import Derived.Deep.RegionHeld3
import Derived.Test.YtmeplgihnlpjcaaGreatDoorMG5
import Derived.Test.YtmeplgihnlpjcaaGreatDoorMG14
namespace Go.Proofs.YtmeplgihnlpjcaaGreatDoor
open Go.RowKit Go.Shelf Go.Lib
open Go.Sort (Holds putRow grow)

set_option maxRecDepth 100000 in
set_option maxHeartbeats 4000000 in
theorem grOrder1_calls (x : Nat) (W : World) : Calls Tryz.prog 31 #[nv x] W fun e w' => e = .returned (.bool true) ∧ w' = W := by
  go_enter Tryz.func31, Tryz.ntmps31
  go_wp2
  go_ret
  exact ⟨rfl, rfl⟩

set_option maxRecDepth 100000 in
set_option maxHeartbeats 4000000 in
theorem grOrderOf1_calls {W : World} {l : List Ru} {p bm G : Nat} {vals : Nat → Value} (hS : ShAt W l p bm G vals) (sb lb : Nat) (hs : W.cell? ⟨sb, 0, none⟩ = some (.pointer (some ⟨p, 0, none⟩))) (vl : Value) (ll : List Nat) (hl : W.cell? ⟨lb, 0, none⟩ = some vl) (hrow : NIRow W vl ll) (hll : ll.length ≤ 1000) (x : Nat) (hx : x < l.length) (h12 : l[x].ins.length ≤ 12) :
    Calls Tryz.prog 45 #[nv x, .pointer (some ⟨sb, 0, none⟩), .pointer (some ⟨lb, 0, none⟩)] W fun e w' => e = .returned (.bool (!((Ru.needL l l[x].ins).any fun y => decide (y ∈ ll)))) ∧ Below W.heap.size W w' := by
  obtain ⟨d0, r0⟩ := hS.row x hx
  have h1 := hS.c1
  have hlen := Ru.needL_len l l[x].ins
  have HM := hid1 fun W' (g : Below W.heap.size W W') => grmeet_calls (vals x) vl (Ru.needL l l[x].ins) ll (r0.below g) (hrow.below g) (by omega) (by omega)
  have c0 : (0 : Int) ≤ (x : Int) := by omega
  have c1 : (x : Int) < (l.length : Int) := by omega
  obtain ⟨p1, k1, e1, -⟩ := r0
  rw [e1] at d0 HM
  obtain ⟨p2, k2, rfl, -⟩ := hrow
  generalize ((Ru.needL l l[x].ins).any fun y => decide (y ∈ ll)) = d at *
  generalize (Ru.needL l l[x].ins).length = m at *
  clear hS hlen e1
  go_enter Tryz.func45, Tryz.ntmps45
  go_wp2
  go_region_held3 (fun w' => w'.cell? ⟨sb, 0, none⟩ = some (.pointer (some ⟨p, 0, none⟩)) ∧ w'.cell? ⟨p, 1, none⟩ = some (.slice (some ⟨G, 0, none⟩) l.length l.length) ∧ w'.cell? ⟨G, x, none⟩ = some (.slice p1 m k1) ∧ w'.cell? ⟨lb, 0, none⟩ = some (.slice p2 ll.length k2)) (first | go_keep | fail)
    (first | (go_at_call 46; refine (HM.out _ (by exact (Below.refl _ W).drew)).mono ?_; rintro e w5 ⟨rfl, g5⟩; have e0 := cell_below' (w := W.drew) hs g5; have e1 := cell_below' (w := W.drew) h1 g5; have e2 := cell_below' (w := W.drew) d0 g5; have e3 := cell_below' (w := W.drew) hl g5) | fail)
  all_goals
    go_wp2
    go_ret
    exact ⟨rfl, below_then ((Below.refl _ W).drew) g5⟩

set_option maxRecDepth 100000 in
set_option maxHeartbeats 16000000 in
theorem grOrderOf_calls {w : World} {es : Nat → Addr} (hW : GraphW w es) (v : Value) (l : List Ru) (hrow : RRow w v l) (hn : l.length ≤ 1000) (hS : ∀ x ∈ l, x.Small) (f : Nat) (caps : Array Value) (eg : ∀ args w, (callFunc f args).run Tryz.prog w = .ok (.enter f args) w)
    (HF : Hid (∀ (x : Nat) (W : World), Calls Tryz.prog f (#[nv x] ++ caps) W fun e w' => e = .returned (.bool true) ∧ w' = W)) :
    Calls Tryz.prog 30 #[v, .func (.func f) #[] caps] w fun e w' => ∃ u ev, e = .returned (.tuple #[u, ev]) ∧ Below w.heap.size w w' ∧ OrderTells es l w' u ev := by
  have HL := hid1 (grlook_calls hW.s v l hrow hn hS)
  have H12 : Hid (∀ i (hi : i < l.length), l[i].ins.length ≤ 12) := hid1 fun i hi => (hS _ (List.getElem_mem hi)).many
  have hcyc := hW.cyc
  obtain ⟨i1, hI, hI0, hI1, hI2⟩ := info_parts Tryz.infoInt
  obtain ⟨pr, cap, rfl, -⟩ := hrow
  have zn : (l.length : Int) ≤ 1000 := by omega
  clear hS hW
  go_enter Tryz.func30, Tryz.ntmps30
  go_wp2_with fail
  refine HL.out.mono ?_
  rintro e w1 ⟨u, ev, rfl, g1, hT⟩
  rcases hT with ⟨hf, hE, rfl, t, x, rfl⟩ | ⟨hf, rfl, p, bm, G, vals, rfl, hSh⟩
  · have HE := hid1 hE
    have HZ := hid1 hf
    clear HL hE hf
    go_wp2
    go_ret2
    have gA : Below w1.heap.size w1 (w1.alloc (.cells #[.pointer none] 60)) := (Below.refl _ w1).alloc (Nat.le_refl _) _
    exact ⟨_, _, rfl, below_then g1 gA, .inl ⟨HZ.out, HE.out.below gA, _, _, rfl⟩⟩
  · obtain ⟨h40, hA⟩ := Ru.fault_ok hf
    have HZ := hid1 hf
    have HA := hid1 hA
    have HSh := hid1 hSh
    have hcy1 := cell_below' hcyc g1
    have htop := hSh.c1
    have hlp := lt_of_cell htop
    simp only at hlp
    clear HL hf hA hSh hcyc
    go_wp2
    go_loopw [25] (fun iv wr => ∃ (k : Nat) (vl : Value), k ≤ l.length ∧ iv = .int .i64 k ∧ OrdL w1 wr (w1.heap.size + 2) w1.heap.size (w1.heap.size + 1) p vl (List.range k)) (fun iv _ => l.length - (intOf iv).toNat)
    case atStart =>
      exact ⟨0, .slice none 0 0, Nat.zero_le _, rfl, OrdL.make w1 p⟩
    case round =>
      obtain ⟨k, vl, hk, rfl, hO⟩ := hrel
      have HO := hid1 hO
      clear hO
      have c0 : (0 : Int) ≤ (k : Int) := by omega
      by_cases hlt : k < l.length
      · have c1 : (k : Int) < (l.length : Int) := by omega
        have HC := HF.out k wr
        have hcl := HO.out.cl
        have hfl := HO.out.fl
        have hrw := HO.out.row
        have hbz := HO.out.size
        have hml3 : (List.range k).length + 1 ≤ maxLen := by unfold maxLen; simp; omega
        clear HF
        go_wp2_with fail
        refine Calls.mono HC ?_
        rintro e w2 ⟨rfl, rfl⟩
        clear HC
        have HAp := hid1 fun (W1 W' : World) (vl' : Value) (hb : Below w2.heap.size w2 W1) (hg : W1.grownBy W' vl.ownBlock) (hr : W'.ownsRow (w1.heap.size + 2) 3 1 vl' ((List.range k).length + 1) ((List.range k).map nv ++ [nv k])) => HO.out.append (ll' := List.range (k + 1)) (vl' := vl') hb hg (by rw [List.range_succ]; simpa using hr)
        obtain ⟨pv, cv, rfl, -⟩ := NRow.of_owns hrw
        simp only [List.length_range] at hcl hrw hml3 HAp
        go_wp2_with (first
          | (at_builtin; refine wpList_append_own _ rfl _ _ 25 rfl (w1.heap.size + 2) 3 i1 (.int .i64 0) 1 8 Tryz.underlying25 hI hI0 hI1 hI2 rfl (by decide) _ _ _ rfl (hrw.alloc _) ⟨w2.heap.size, 0, none⟩ 1 1 [nv k] rfl rfl (one_new _ _ _ _ (by simp)) (by simp [Value.oneCell']) hml3 (by omega) (by simp; omega) ?_; intro v' w4 hown' hgrow _; (obtain ⟨p', c', rfl⟩ := own_slice hown'); (obtain ⟨q1, q2, q3⟩ := HAp.out _ _ _ (by exact (Below.refl _ w2).alloc (Nat.le_refl _) _) hgrow hown'); (have HQ := hid1 q3); clear q3 hown' hgrow)
          | go_in)
        exact ⟨⟨k + 1, _, by omega, by go_num, HQ.out⟩, by simp [intOf]; omega⟩
      · have c1 : (l.length : Int) ≤ (k : Int) := by omega
        obtain rfl : k = l.length := by omega
        have HS0 : Hid (OrdS w1 wr wr.heap.size w1.heap.size (w1.heap.size + 1) p vl (Ru.left l.length []) (.slice none 0 0) []) := hid1 (by
          have := HO.out.turn
          rwa [← Ru.left_nil] at this)
        have HF0 := hid1 (Ru.Ord.first l)
        clear HO HF
        generalize wr = w3 at *
        generalize hB2 : w3.heap.size = B2 at *
        go_wp2
        go_loopw [9] (fun ov wx => ∃ (o : List Nat) (vl : Value), Ru.Ord l o ∧ OrdS w1 wx B2 w1.heap.size (w1.heap.size + 1) p vl (Ru.left l.length o) ov o) (fun ov _ => l.length + 1 - slen ov)
        case atStart => exact ⟨[], vl, HF0.out, HS0.out⟩
        case round =>
          clear HS0 HF0 vl
          obtain ⟨o, vl, hOrd, hS⟩ := hrel
          have HOr := hid1 hOrd
          have HS := hid1 hS
          have holen := hOrd.len
          clear hOrd hS
          have hcl := HS.out.cl
          by_cases hem : Ru.left l.length o = []
          · have HD := hid1 (Ru.ord_done HOr.out.ord holen hem)
            have HN : Hid (NIRow wr u9 o) := hid1 (NRow.of_owns HS.out.row).ni
            obtain ⟨a, c, rfl⟩ : ∃ a c, vl = .slice a 0 c := by
              rcases HS.out.left with ⟨_, h⟩ | ⟨g, cap, h, _⟩
              · exact h
              · exact ⟨_, cap, by rw [h, hem]; rfl⟩
            have gB := below_then g1 HS.out.below
            clear HOr HS hem
            go_wp2
            go_ret2
            exact ⟨_, _, rfl, gB, .inr (.inr ⟨HZ.out, o, HD.out, rfl, HN.out⟩)⟩
          · obtain ⟨g, cpl, rfl, hroom, hcm, hH, hlg, hgB, hgs, hgl⟩ := HS.out.left.resolve_left (fun h => hem h.1)
            have hll := Ru.left_len l.length o
            have hpos : 0 < (Ru.left l.length o).length := List.length_pos_iff.2 hem
            have hz1 : (0 : Int) < ((Ru.left l.length o).length : Int) := by omega
            have hgw : g < wr.heap.size := by have := HS.out.size; omega
            have hni := Holds.ni (cap := cpl) hH hgw
            have HX := hid1 (indexFuncI_calls (w := wr) (.slice (some ⟨g, 0, none⟩) (Ru.left l.length o).length cpl) (Ru.left l.length o) hni (by omega) 45 #[.pointer (some ⟨w1.heap.size, 0, none⟩), .pointer (some ⟨w1.heap.size + 1, 0, none⟩)] (enters_of Tryz.func45 (by kernel_rfl) rfl) (fun x => Ru.freeTo l (Ru.isIn o) x l.length)
              (hid1 fun x hx W gW => by
                have hxl := (Ru.left_mem.1 hx).1
                have := grOrderOf1_calls ((HSh.out.below HS.out.below).below gW) w1.heap.size (w1.heap.size + 1) (cell_below' HS.out.cs gW) _ _ (cell_below' HS.out.cl gW) (hni.below gW) (by omega) x hxl (H12.out x hxl)
                rw [Ru.free_eq HA.out hxl] at this
                exact this))
            have HNone := hid1 fun (h : ∀ x ∈ Ru.left l.length o, Ru.freeTo l (Ru.isIn o) x l.length = false) => Ru.ord_none HOr.out.ord holen hem (Ru.left_none (b := fun x => Ru.freeTo l (Ru.isIn o) x l.length) (fun _ _ => rfl) h)
            have HMore := hid1 fun (k : Nat) (hk : k < (Ru.left l.length o).length) h1 h2 => HOr.out.more (b := fun x => Ru.freeTo l (Ru.isIn o) x l.length) (fun _ _ => rfl) hk h1 h2
            have HDel := hid1 fun (k : Nat) (hk : k < (Ru.left l.length o).length) => Ru.left_del (n := l.length) (o := o) hk
            clear hni hH HOr
            go_wp2_with fail
            refine HX.out.mono ?_
            rintro e w5 ⟨r, rfl, g5, hr⟩
            clear HX
            rcases hr with ⟨rfl, hno⟩ | ⟨k, rfl, hk, hk1, hk2⟩
            · have HD := hid1 (HNone.out hno)
              have hcy5 := cell_below' hcy1 (HS.out.grown g5).below
              have gB := below_then g1 (HS.out.grown g5).below
              clear HNone HMore HDel hno
              go_wp2
              go_region
              go_wp2
              go_ret2
              exact ⟨_, _, rfl, gB.drew, .inr (.inl ⟨HZ.out, HD.out, rfl, _, _, rfl⟩)⟩
            · have HO2 := hid1 (HMore.out k hk hk1 hk2)
              have HD2 := hid1 (HDel.out k hk)
              have hS5 := HS.out.grown g5
              have hsl := owns_slen hS5.row
              have hlb5 := hS5.cl
              have hr5 := hS5.row
              have hbz := hS5.size
              have hd5 : w5.cell? ⟨g, k, none⟩ = some (nv (Ru.left l.length o)[k]) := by
                obtain ⟨g', c', e', -, -, hH', -⟩ := hS5.left.resolve_left (fun h => hem h.1)
                obtain ⟨rfl, rfl⟩ : g = g' ∧ cpl = c' := by
                  simp only [Value.slice.injEq, Option.some.injEq, Addr.mk.injEq] at e'
                  exact ⟨e'.1.1, e'.2.2⟩
                have := (hH' k (by simpa using hk)).1
                rwa [Nat.zero_add, ints_get hk] at this
              have HS5 := hid1 hS5
              have k0 : (0 : Int) ≤ (k : Int) := by omega
              have k1 : (k : Int) < ((Ru.left l.length o).length : Int) := by omega
              have k2 : (k : Int) ≤ 1000 := by omega
              have hml3 : o.length + 1 ≤ maxLen := by unfold maxLen; omega
              clear HNone HMore HDel hk1 hk2 HS hS5 hcl
              generalize hy : (Ru.left l.length o)[k] = y at *
              clear hy
              have HAp := hid1 fun (w6 : World) (v6 : Value) (hg : (w5.alloc (.cells #[nv y] 3)).grownBy w6 u9.ownBlock) (hr : w6.ownsRow B2 3 1 v6 (o.length + 1) (o.map nv ++ [nv y])) => HS5.out.append (o' := o ++ [y]) ((Below.refl _ w5).alloc (Nat.le_refl _) _) hg (by simpa using hr)
              go_wp2_with (first
                | (at_builtin; refine wpList_append_own _ rfl _ _ 25 rfl B2 3 i1 (.int .i64 0) 1 8 Tryz.underlying25 hI hI0 hI1 hI2 rfl (by decide) _ _ _ rfl (hr5.alloc _) ⟨w5.heap.size, 0, none⟩ 1 1 [nv y] rfl rfl (one_new _ _ _ _ (by simp)) (by simp [Value.oneCell']) hml3 (by omega) (by simp; omega) ?_; intro v6 w6 hown6 hgrow6 _; (have hs6 := owns_slen hown6); (have hS6 := HAp.out _ _ hgrow6 hown6); (have hlb6 := hS6.cl); clear hown6 hgrow6)
                | fail)
              have hH6 : Holds encI w6 g 0 (ints (Ru.left l.length o)).toArray := by
                obtain ⟨g', c', e', -, -, hH', -⟩ := hS6.left.resolve_left (fun h => hem h.1)
                obtain ⟨rfl, rfl⟩ : g = g' ∧ cpl = c' := by
                  simp only [Value.slice.injEq, Option.some.injEq, Addr.mk.injEq] at e'
                  exact ⟨e'.1.1, e'.2.2⟩
                exact hH'
              have HDl := hid1 (deleteI_calls g cpl (Ru.left l.length o) k hk hH6 hroom hcm)
              have HS6 := hid1 hS6
              have HGo := hid1 fun (W' : World) (hg : w6.grownBy W' (some g)) (hH : Holds encI W' g 0 (ints ((Ru.left l.length o).take k ++ (Ru.left l.length o).drop (k + 1))).toArray) => hS6.gone hem hg hH (by simp; omega)
              rw [HD2.out] at HDl HGo
              clear hS6 hH6 HS5 hr5 hd5 hlb5 HD2 HAp
              refine HDl.out.mono ?_
              rintro e w7 ⟨rfl, hH7, hg7⟩
              obtain ⟨q1, q2, q3⟩ := HGo.out w7 hg7 hH7
              have HQ := hid1 q3
              clear HDl HGo hH7 hg7 q3
              go_wp2
              exact ⟨⟨o ++ [y], _, HO2.out, HQ.out⟩, by rw [hs6, hsl]; omega⟩

set_option maxRecDepth 100000 in
set_option maxHeartbeats 4000000 in
theorem gOrder_calls {w : World} {es : Nat → Addr} (hW : GraphW w es) (v : Value) (l : List Ru) (hrow : RRow w v l) (hn : l.length ≤ 1000) (hS : ∀ x ∈ l, x.Small) :
    Calls Tryz.prog 10 #[v] w fun e w' => ∃ u ev, e = .returned (.tuple #[u, ev]) ∧ Below w.heap.size w w' ∧ OrderTells es l w' u ev := by
  have HC := hid1 (grOrderOf_calls hW v l hrow hn hS 31 #[] (enters_of Tryz.func31 (by kernel_rfl) rfl) (hid1 fun x W => grOrder1_calls x W))
  obtain ⟨pr, cap, rfl, -⟩ := hrow
  clear hS hW
  go_enter Tryz.func10, Tryz.ntmps10
  go_wp2_with fail
  refine HC.out.mono ?_
  rintro e w1 ⟨u, ev, rfl, g1, hT⟩
  have HT := hid1 hT
  clear HC hT
  go_wp2
  go_ret2
  exact ⟨_, _, rfl, g1, HT.out⟩
end Go.Proofs.YtmeplgihnlpjcaaGreatDoor
/- Package graph's Leaves: as data. -/
namespace Go.Proofs.YtmeplgihnlpjcaaGreatDoor
open Go.RowKit Go.Shelf Go.Lib

theorem compact_upto {zs : List (List UInt8)} (hs : zs.Pairwise (fun x y => x ≤ y)) : ∀ m, m ≤ zs.length → (compactUpTo zs.toArray m).Pairwise (fun x y => x ≤ y) ∧ (compactUpTo zs.toArray m).Nodup ∧ ∀ x, x ∈ compactUpTo zs.toArray m ↔ x ∈ zs.take m
  | 0, _ => by simp [compactUpTo]
  | m + 1, h => by
    obtain ⟨h1, h2, h3⟩ := compact_upto hs m (by omega)
    have hm : m < zs.length := by omega
    have em : zs.toArray[m]! = zs[m] := by simp [hm]
    have hsd := List.pairwise_iff_getElem.1 hs
    rw [Af.compact_succ, List.take_succ_eq_append_getElem hm]
    by_cases hk : keeps zs.toArray m = true
    · rw [if_pos hk, em]
      have hnew : zs[m] ∉ zs.take m := by
        intro hmem
        obtain ⟨j, hj, ej⟩ := List.getElem_of_mem hmem
        rw [List.getElem_take] at ej
        have hjm : j < m := by simp at hj; omega
        unfold keeps at hk
        have hk' : m = 0 ∨ zs.toArray[m]! ≠ zs.toArray[m - 1]! := by simpa using hk
        rcases hk' with h0 | h0
        · omega
        · rw [em, show zs.toArray[m - 1]! = zs[m - 1] by simp [show m - 1 < zs.length by omega]] at h0
          refine h0 (List.le_antisymm ?_ (hsd (m - 1) m (by omega) hm (by omega)))
          rw [← ej]
          by_cases e : j = m - 1
          · subst e; exact List.le_refl _
          · exact hsd j (m - 1) (by omega) (by omega) (by omega)
      refine ⟨?_, ?_, fun x => ?_⟩
      · rw [List.pairwise_append]
        refine ⟨h1, by simp, fun a ha b hb => ?_⟩
        rw [List.mem_singleton.1 hb]
        obtain ⟨j, hj, ej⟩ := List.getElem_of_mem ((h3 a).1 ha)
        rw [List.getElem_take] at ej
        rw [← ej]
        exact hsd j m (by simp at hj; omega) hm (by simp at hj; omega)
      · rw [List.nodup_append]
        refine ⟨h2, by simp, fun a ha b hb => ?_⟩
        rw [List.mem_singleton.1 hb]
        rintro rfl
        exact hnew ((h3 _).1 ha)
      · rw [List.mem_append, List.mem_append, h3]
    · rw [if_neg hk, List.append_nil]
      refine ⟨h1, h2, fun x => ?_⟩
      have hk' : ¬ (m = 0 ∨ zs.toArray[m]! ≠ zs.toArray[m - 1]!) := by
        unfold keeps at hk
        simpa using hk
      have h0 : m ≠ 0 := fun e => hk' (.inl e)
      have hq : zs.toArray[m]! = zs.toArray[m - 1]! := Classical.byContradiction fun e => hk' (.inr e)
      rw [em, show zs.toArray[m - 1]! = zs[m - 1] by simp [show m - 1 < zs.length by omega]] at hq
      rw [h3, List.mem_append, List.mem_singleton]
      constructor
      · exact .inl
      · rintro (h4 | rfl)
        · exact h4
        · rw [hq]
          exact List.mem_take_iff_getElem.2 ⟨m - 1, by omega, rfl⟩
theorem compact_sorted {zs : List (List UInt8)} (hs : zs.Pairwise (fun x y => x ≤ y)) : (Lib.compact zs).Pairwise (fun x y => x ≤ y) ∧ (Lib.compact zs).Nodup ∧ ∀ x, x ∈ Lib.compact zs ↔ x ∈ zs := by
  have := compact_upto hs zs.length (Nat.le_refl _)
  rwa [List.take_length] at this

/-- What Leaves has, i rules and k inputs on. -/
structure LeafU (l : List Ru) (i k : Nat) (r : List (List UInt8)) : Prop where
  mem : ∀ x, x ∈ r ↔ ((∃ y ∈ l.take i, x ∈ y.ins) ∨ ∃ y, l[i]? = some y ∧ x ∈ y.ins.take k) ∧ ∀ z ∈ l, z.out ≠ x
  few : r.length ≤ i * 12 + k
theorem LeafU.first (l : List Ru) : LeafU l 0 0 [] := ⟨fun x => by simp, by simp⟩
theorem LeafU.nextRule {l : List Ru} {i : Nat} {r : List (List UInt8)} (hi : i < l.length) (h12 : l[i].ins.length ≤ 12) (h : LeafU l i l[i].ins.length r) : LeafU l (i + 1) 0 r := by
  refine ⟨fun x => ?_, by have := h.few; omega⟩
  rw [h.mem, List.getElem?_eq_getElem hi, List.take_succ_eq_append_getElem hi]
  simp only [Option.some.injEq, List.mem_append, List.mem_singleton, List.take_zero, List.not_mem_nil, and_false, exists_false, or_false]
  constructor
  · rintro ⟨h1, h2⟩
    refine ⟨?_, h2⟩
    rcases h1 with ⟨y, hy, hx⟩ | ⟨y, rfl, hx⟩
    · exact ⟨y, .inl hy, hx⟩
    · exact ⟨_, .inr rfl, List.mem_of_mem_take hx⟩
  · rintro ⟨⟨y, hy, hx⟩, h2⟩
    refine ⟨?_, h2⟩
    rcases hy with hy | rfl
    · exact .inl ⟨y, hy, hx⟩
    · exact .inr ⟨_, rfl, by rwa [List.take_length]⟩
theorem LeafU.made {l : List Ru} {i k : Nat} {r : List (List UInt8)} (hi : i < l.length) (hk : k < l[i].ins.length) (h : LeafU l i k r) (hs : ∃ z ∈ l, z.out = l[i].ins[k]) : LeafU l i (k + 1) r := by
  refine ⟨fun x => ?_, by have := h.few; omega⟩
  rw [h.mem, List.getElem?_eq_getElem hi]
  simp only [Option.some.injEq]
  constructor
  · rintro ⟨h1, h2⟩
    refine ⟨?_, h2⟩
    rcases h1 with h1 | ⟨y, rfl, hx⟩
    · exact .inl h1
    · exact .inr ⟨_, rfl, (List.take_sublist_take_left (Nat.le_succ k)).subset hx⟩
  · rintro ⟨h1, h2⟩
    rcases h1 with h1 | ⟨y, rfl, hx⟩
    · exact ⟨.inl h1, h2⟩
    · rw [List.take_succ_eq_append_getElem hk, List.mem_append, List.mem_singleton] at hx
      rcases hx with hx | rfl
      · exact ⟨.inr ⟨_, rfl, hx⟩, h2⟩
      · obtain ⟨z, hz, e⟩ := hs
        exact absurd e (h2 z hz)
theorem LeafU.more {l : List Ru} {i k : Nat} {r : List (List UInt8)} (hi : i < l.length) (hk : k < l[i].ins.length) (h : LeafU l i k r) (hm : ∀ z ∈ l, z.out ≠ l[i].ins[k]) : LeafU l i (k + 1) (r ++ [l[i].ins[k]]) := by
  refine ⟨fun x => ?_, by rw [List.length_append, List.length_singleton]; have := h.few; omega⟩
  rw [List.mem_append, List.mem_singleton, h.mem, List.getElem?_eq_getElem hi]
  simp only [Option.some.injEq]
  constructor
  · rintro (⟨h1, h2⟩ | rfl)
    · refine ⟨?_, h2⟩
      rcases h1 with h1 | ⟨y, rfl, hx⟩
      · exact .inl h1
      · exact .inr ⟨_, rfl, (List.take_sublist_take_left (Nat.le_succ k)).subset hx⟩
    · exact ⟨.inr ⟨_, rfl, by rw [List.take_succ_eq_append_getElem hk]; exact List.mem_append_right _ (List.mem_singleton.2 rfl)⟩, hm⟩
  · rintro ⟨h1, h2⟩
    rcases h1 with h1 | ⟨y, rfl, hx⟩
    · exact .inl ⟨.inl h1, h2⟩
    · rw [List.take_succ_eq_append_getElem hk, List.mem_append, List.mem_singleton] at hx
      rcases hx with hx | rfl
      · exact .inl ⟨.inr ⟨_, rfl, hx⟩, h2⟩
      · exact .inr rfl
theorem LeafU.done {l : List Ru} {r : List (List UInt8)} (h : LeafU l l.length 0 r) : Ru.Leaves l (Lib.compact (Af.srt r)) := by
  obtain ⟨h1, h2, h3⟩ := compact_sorted (Af.srt_sorted r)
  refine ⟨h1, h2, fun x => ?_⟩
  rw [h3, (Af.srt_perm r).mem_iff, h.mem, List.take_length]
  unfold Ru.Leaf
  simp
theorem HRow.ir {B : Nat} {w : World} {v : Value} {l : List (List UInt8)} (h : HRow B w v l) : IRow w v l := by
  rcases h with ⟨rfl, rfl⟩ | ⟨g, cap, rfl, _, h2, _, hH⟩
  · exact ⟨none, 0, rfl, fun h => absurd rfl h⟩
  · refine ⟨_, cap, rfl, fun _ => ⟨g, 0, rfl, h2, fun j hj => ?_⟩⟩
    have := (hH j (by simpa using hj)).1
    rw [this]
    simp [hj]
end Go.Proofs.YtmeplgihnlpjcaaGreatDoor
/- Package graph's Leaves: the walk. -/
namespace Go.Proofs.YtmeplgihnlpjcaaGreatDoor
open Go.RowKit Go.Shelf Go.Lib

theorem mk_get {l : List Ru} {s : List UInt8} (h : (Ru.mkr l s).isSome = true) : ∃ z ∈ l, z.out = s := by
  cases hm : Ru.mkr l s with
  | none => rw [hm] at h; cases h
  | some k =>
    obtain ⟨hk, h1, _⟩ := Ru.mkr_some hm
    exact ⟨_, List.getElem_mem hk, h1⟩

set_option maxRecDepth 100000 in
set_option maxHeartbeats 16000000 in
theorem gLeaves_calls {w : World} {es : Nat → Addr} (hW : SheetW w es) (v : Value) (l : List Ru) (hrow : RRow w v l) (hn : l.length ≤ 1000) (hS : ∀ x ∈ l, x.Small) :
    Calls Tryz.prog 15 #[v] w fun e w' => ∃ u ev, e = .returned (.tuple #[u, ev]) ∧ Below w.heap.size w w' ∧ LeavesTells es l w' u ev := by
  have HL := hid1 (grlook_calls hW v l hrow hn hS)
  obtain ⟨pr, cap, rfl, hcap, hnn, hin⟩ := hrow
  have HI := hid1 hin
  have H12 : Hid (∀ i (hi : i < l.length), l[i].ins.length ≤ 12) := hid1 fun i hi => (hS _ (List.getElem_mem hi)).many
  clear hin hnn hS hW
  obtain ⟨i0, hi, hz0, hz1, hz2⟩ := info_parts Tryz.infoStr
  have zn : (l.length : Int) ≤ 1000 := by omega
  go_enter Tryz.func15, Tryz.ntmps15
  go_wp2_with fail
  refine HL.out.mono ?_
  rintro e w1 ⟨u, ev, rfl, g1, hT⟩
  rcases hT with ⟨hf, hE, rfl, t, x, rfl⟩ | ⟨hf, rfl, p, bm, G, vals, rfl, hSh⟩
  · have HE := hid1 hE
    have HZ := hid1 hf
    clear HL hE hf
    go_wp2
    go_ret2
    exact ⟨_, _, rfl, g1, .inl ⟨HZ.out, HE.out, _, _, rfl⟩⟩
  · have HZ := hid1 hf
    have HSh := hid1 hSh
    have HF := hid1 (LeafU.first l)
    have hc0 := hSh.c0
    clear HL hf hSh
    go_wp2
    go_loopw [6, 23] (fun ov iv wr => ∃ (i : Nat) (r : List (List UInt8)), i ≤ l.length ∧ iv = .int .i64 i ∧ wr.ownsRow w1.heap.size 9 1 ov r.length (r.map sv) ∧ LeafU l i 0 r ∧ Below w1.heap.size w1 wr) (fun _ iv _ => l.length - (intOf iv).toNat)
    case atStart => exact ⟨0, [], Nat.zero_le _, rfl, World.ownsRow_nil _ _ _ _, HF.out, Below.refl _ _⟩
    case round =>
      obtain ⟨i, r, hil, rfl, hO, hU, B⟩ := hrel
      have HO := hid1 hO
      have HU := hid1 hU
      clear hO hU HF
      have c0 : (0 : Int) ≤ (i : Int) := by omega
      by_cases hlt : i < l.length
      · have c1 : (i : Int) < (l.length : Int) := by omega
        obtain ⟨g', o, rfl, hg, hcur⟩ := HI.out (by intro e; rw [e] at hlt; simp at hlt)
        obtain ⟨b0, b1, b2, ui, b3, bx⟩ := hcur i hlt
        have gB := below_then g1 B
        have d0 := cell_below' b0 gB
        have d1 := cell_below' b1 gB
        have d2 := cell_below' b2 gB
        have d3 := cell_below' b3 gB
        have h12 := H12.out i hlt
        have z12 : (l[i].ins.length : Int) ≤ 12 := by omega
        obtain ⟨p3, cap3, rfl, hcap3, -, hin3⟩ := bx
        have HI3 := hid1 hin3
        have hst : ∀ (a : Addr) (m : Mode) (W : World), Sem.run Tryz.prog (store a (.slice p3 l[i].ins.length cap3) m) W = stored Tryz.prog W a (.slice p3 l[i].ins.length cap3) m := fun a m W => run_store _ W a _ m rfl
        clear hcur hin3 b0 b1 b2 b3
        generalize wr = w2 at *
        have B3 := B.alloc B.size (.cells #[.string (ba l[i].out), .string (ba l[i].kind), .string (ba l[i].word), .slice p3 l[i].ins.length cap3] 57)
        have HO3 := hid1 (HO.out.alloc (.cells #[.string (ba l[i].out), .string (ba l[i].kind), .string (ba l[i].word), .slice p3 l[i].ins.length cap3] 57))
        go_wp2
        go_loopw [6, 30] (fun ov kv wx => ∃ (k : Nat) (r : List (List UInt8)), k ≤ l[i].ins.length ∧ kv = .int .i64 k ∧ wx.ownsRow w1.heap.size 9 1 ov r.length (r.map sv) ∧ LeafU l i k r ∧ Below w1.heap.size w1 wx) (fun _ kv _ => l[i].ins.length - (intOf kv).toNat)
        case atStart => exact ⟨0, r, Nat.zero_le _, rfl, HO3.out, HU.out, B3⟩
        case round =>
          clear HO HU HO3 B3 B gB d0 d1 d2 d3 r hst
          obtain ⟨k, r, hkl, rfl, hO, hU, B⟩ := hrel
          have HO := hid1 hO
          have HU := hid1 hU
          clear hO hU
          have k0 : (0 : Int) ≤ (k : Int) := by omega
          by_cases hklt : k < l[i].ins.length
          · have k1 : (k : Int) < (l[i].ins.length : Int) := by omega
            obtain ⟨g3, o3, rfl, hg3, hc3⟩ := HI3.out (by intro e; rw [e] at hklt; simp at hklt)
            have gB := below_then g1 B
            have e3 := (gB.cell (p := ⟨g3, o3 + k, none⟩) hg3).trans (hc3 k hklt)
            have HMade := hid1 (HU.out.made hlt hklt)
            have HMore := hid1 (HU.out.more hlt hklt)
            have hfew := HU.out.few
            have hcm := cell_below' hc0 B
            have hlk := look_mk (HSh.out.below B).map l[i].ins[k]
            generalize hs : l[i].ins[k] = s at *
            cases hm : Ru.mkr l s with
            | some j =>
              have HQ := hid1 (HMade.out (mk_get (by rw [hm]; rfl)))
              rw [hm] at hlk
              simp only [Option.getD_some, Option.isSome_some] at hlk
              clear HMade HMore hm hfew hc3 HI3
              go_wp2
              exact ⟨⟨k + 1, r, by omega, by go_num, HO.out, HQ.out, B⟩, by simp [intOf]; omega⟩
            | none =>
              have HQ := hid1 (HMore.out (Ru.mkr_none hm))
              rw [hm] at hlk
              simp only [Option.getD_none, Option.isSome_none] at hlk
              have hrl : r.length ≤ 12012 := by
                have : i * 12 ≤ 1000 * 12 := Nat.mul_le_mul (by omega) (Nat.le_refl _)
                omega
              have hrow := HO.out
              have hml : r.length + 1 ≤ maxLen := by unfold maxLen; omega
              have hbz := B.size
              clear HMade HMore hm hfew hc3 HI3
              go_wp2_with (at_builtin; refine wpList_append_own _ rfl _ _ 34 rfl w1.heap.size 9 i0 (.string ⟨#[]⟩) 1 16 Tryz.underlying34 hi hz0 hz1 hz2 rfl (by decide) _ _ _ rfl (hrow.alloc _) ⟨wr.heap.size, 0, none⟩ 1 1 [.string (ba s)] rfl rfl (cell_one_new _ _ _) (by simp [Value.oneCell']) hml (by omega) (by simp; omega) ?_; intro v' w4 hown' hgrow _)
              exact ⟨⟨k + 1, r ++ [s], by omega, by go_num, by simpa using hown', HQ.out, below_appended B hbz hrow hgrow⟩, by simp [intOf]; omega⟩
          · have k1 : (l[i].ins.length : Int) ≤ (k : Int) := by omega
            obtain rfl : k = l[i].ins.length := by omega
            have HQ := hid1 (HU.out.nextRule hlt h12)
            clear HU HI3
            go_wp2
            exact ⟨⟨i + 1, r, by omega, by go_num, HO.out, HQ.out, B⟩, by simp [intOf]; omega⟩
      · have c1 : (l.length : Int) ≤ (i : Int) := by omega
        obtain rfl : i = l.length := by omega
        have HQ := hid1 HU.out.done
        have hfew := HU.out.few
        have hrl : r.length ≤ 12000 := by
          have : l.length * 12 ≤ 1000 * 12 := Nat.mul_le_mul (by omega) (Nat.le_refl _)
          omega
        have HS := hid1 (sort_calls (HRow.of_owns HO.out) B.size (by omega))
        clear HU hfew HI
        go_wp2_with fail
        refine HS.out.mono ?_
        rintro e w3 ⟨rfl, h3, g3⟩
        have G3 := B.trans g3
        have HC := hid1 (compact_calls h3 G3.size (by rw [Af.srt_len]; omega))
        clear HS h3 g3
        go_wp2_with fail
        refine HC.out.mono ?_
        rintro e w4 ⟨v4, rfl, h4, g4⟩
        have HH := hid1 h4.ir
        have G4 := below_then g1 (G3.trans g4)
        clear HC h4 g4
        go_wp2
        go_ret2
        exact ⟨_, _, rfl, G4, .inr ⟨HZ.out, rfl, _, HQ.out, HH.out⟩⟩
end Go.Proofs.YtmeplgihnlpjcaaGreatDoor
/- Package graph's round and Cycle: the walks; what its functions tell. -/
namespace Go.Proofs.YtmeplgihnlpjcaaGreatDoor
open Go.RowKit Go.Shelf Go.Lib

theorem Ru.Trail.last {l : List Ru} {e : Nat} {s : List Nat} {d : Nat → Nat} {r : List Nat} {x : Nat} (h : Ru.Trail l e s d (r ++ [x])) : (r = [] ∧ x = e) ∨ (r ≠ [] ∧ x ∈ s ∧ x ≠ e) := by
  by_cases hr : r = []
  · subst hr
    have := h.top
    simp at this
    exact .inl ⟨rfl, this⟩
  · right
    have hp : 0 < r.length := List.length_pos_iff.2 hr
    have h1 : (r ++ [x])[r.length - 1]? = some r[r.length - 1] := by rw [List.getElem?_append_left (by omega), List.getElem?_eq_getElem]
    have h2 : (r ++ [x])[r.length - 1 + 1]? = some x := by rw [show r.length - 1 + 1 = r.length by omega]; simp
    have := h.step _ _ _ h1 h2
    exact ⟨hr, this.1.2.1, this.2⟩
theorem Ru.IsCycle.nil {l : List Ru} (h : ∀ j t, j < l.length → ¬ Ru.Walk l j j (t + 1)) : Ru.IsCycle l [] :=
  ⟨fun _ i t hw => h i t hw.lt.1 hw, fun h => by simp at h, fun j h => by simp at h⟩

/-- What round tells. -/
def RoundTells (l : List Ru) (e : Nat) (c : List Nat) : Prop :=
  (c = [] ∧ ∀ t, ¬ Ru.Walk l e e (t + 1)) ∨ (c ≠ [] ∧ c.length ≤ 1000 ∧ ((∀ j t, j < e → ¬ Ru.Walk l j j (t + 1)) → Ru.IsCycle l c))

set_option maxRecDepth 100000 in
set_option maxHeartbeats 16000000 in
theorem grround_calls {w : World} {l : List Ru} {p bm G : Nat} {vals : Nat → Value} (hS : ShAt w l p bm G vals) (hA : Ru.Apart l) (hn : l.length ≤ 100) (h12 : ∀ i (hi : i < l.length), l[i].ins.length ≤ 12) (e : Nat) (he : e < l.length) :
    Calls Tryz.prog 29 #[.pointer (some ⟨p, 0, none⟩), .int .i64 e] w fun x w' => ∃ u c, x = .returned u ∧ Below w.heap.size w w' ∧ NIRow w' u c ∧ RoundTells l e c := by
  obtain ⟨i1, hI, hI0, hI1, hI2⟩ := info_parts Tryz.infoInt
  have HFa := hid1 (grfar_calls hS hA (by omega) h12 e he)
  have htop := hS.c1
  have HSh := hid1 hS
  have HA := hid1 hA
  have H12 := hid1 h12
  have zn : (l.length : Int) ≤ 100 := by omega
  have e0 : (0 : Int) ≤ (e : Int) := by omega
  have e1 : (e : Int) < (l.length : Int) := by omega
  clear hS hA h12
  go_enter Tryz.func29, Tryz.ntmps29
  go_wp2_with fail
  refine HFa.out.mono ?_
  rintro x w1 ⟨g, s, d, rfl, hF, hc, g1⟩
  have HF := hid1 hF
  have HC := hid1 hc
  have HT0 := hid1 (Ru.Trail.first l e s d)
  clear HFa hF hc
  go_wp2
  go_loopw [6, 7] (fun rv av wr => ∃ (r : List Nat) (x : Nat), av = .int .i64 x ∧ wr.ownsRow w1.heap.size 3 1 rv r.length (r.map nv) ∧ Ru.Trail l e s d (r ++ [x]) ∧ r.length + (if r.length = 0 then l.length + 2 else d x) ≤ l.length + 2 ∧ Below w1.heap.size w1 wr) (fun rv av _ => if slen rv = 0 then l.length + 2 else d (intOf av).toNat)
  case atStart => exact ⟨[], e, rfl, World.ownsRow_nil _ _ _ _, HT0.out, by simp, Below.refl _ _⟩
  case round =>
    clear HT0
    obtain ⟨r, x, rfl, hO, hT, hm, B⟩ := hrel
    have HO := hid1 hO
    have HT := hid1 hT
    have hsl := owns_slen hO
    have HLa := hid1 hT.last
    have hxl : x < l.length := by
      rcases hT.last with ⟨_, rfl⟩ | ⟨_, h, _⟩
      · exact he
      · exact HF.out.lt x h
    have HM := hid1 hm
    have hrl : r.length ≤ l.length + 2 := by omega
    clear hT hm hO
    have x0 : (0 : Int) ≤ (x : Int) := by omega
    have x1 : (x : Int) < (l.length : Int) := by omega
    have hml3 : r.length + 1 ≤ maxLen := by unfold maxLen; omega
    have hr5 := HO.out
    have hbz := B.size
    have gB := below_then g1 B
    obtain ⟨dx, rx⟩ := HSh.out.row x hxl
    have hlen12 : (Ru.needL l l[x].ins).length ≤ 12 := by
      have := Ru.needL_len l l[x].ins
      have := H12.out x hxl
      omega
    have HNe := hid1 fun (W : World) (hb : Below w1.heap.size w1 W) => grnearest_calls (w := W) (vals x) (Ru.needL l l[x].ins) ((rx.below g1).below hb) hlen12 g l.length (by omega) (by omega) s d (fun y hy => Ru.needL_lt hy) (fun k hk => by have := (HF.out.steps k hk).le; omega) (fun j hj => cell_below' (HC.out j hj) hb)
    have hNm := Ru.needL_mem HA.out hxl
    have HNm := hid1 hNm
    obtain ⟨p3, c3, e3, -⟩ := rx
    rw [e3] at dx HNe
    have HDx := hid1 fun (W : World) (hb : Below w1.heap.size w1 W) => cell_below' (cell_below' dx g1) hb
    have HTp := hid1 fun (W : World) (hb : Below w1.heap.size w1 W) => cell_below' (cell_below' htop g1) hb
    clear e3 hNm dx
    generalize hNL : Ru.needL l l[x].ins = nl at *
    clear hNL
    generalize wr = w2 at *
    have HAp := hid1 fun (w4 : World) (hgr : (w2.alloc (.cells #[nv x] 3)).grownBy w4 u6.ownBlock) => below_appended (xs := r.map nv) B hbz hr5 hgr
    go_wp2_with (first
      | (at_builtin; refine wpList_append_own _ rfl _ _ 25 rfl w1.heap.size 3 i1 (.int .i64 0) 1 8 Tryz.underlying25 hI hI0 hI1 hI2 rfl (by decide) _ _ _ rfl (hr5.alloc _) ⟨w2.heap.size, 0, none⟩ 1 1 [nv x] rfl rfl (one_new _ _ _ _ (by simp)) (by simp [Value.oneCell']) hml3 (by omega) (by simp; omega) ?_; intro v4 w4 hown4 hgrow4 _; (have B4 := HAp.out _ hgrow4); (have hd4 := HDx.out _ B4); (have ht4 := HTp.out _ B4); clear hgrow4)
      | fail)
    refine (HNe.out _ B4).mono ?_
    rintro ee w5 ⟨g5, hr⟩
    have B5 := below_then B4 g5
    have hO5 := own_below hown4 g5
    have G5 := below_then g1 B5
    have hs5 := owns_slen hO5
    have HO5 := hid1 hO5
    clear HNe HDx HTp HAp hr5 hown4 hd4 ht4 hO5
    rcases hr with ⟨rfl, hno⟩ | ⟨y, rfl, hy1, hy2, hy3⟩
    · have HQ : Hid (RoundTells l e []) := hid1 (by
        rcases HLa.out with ⟨_, rfl⟩ | ⟨_, h1, h2⟩
        · exact .inl ⟨rfl, HF.out.none fun z hz => hno z ((HNm.out z).2 hz)⟩
        · obtain ⟨z, hz, hzs⟩ := HF.out.some h1 h2
          exact absurd hzs (hno z ((HNm.out z).2 hz)))
      clear HLa HNm hno HM
      go_wp2
      go_ret
      exact ⟨_, [], rfl, G5, ⟨none, 0, rfl, fun h => absurd rfl h⟩, HQ.out⟩
    · have hN : Ru.Next l s d x y := ⟨(HNm.out y).1 hy1, hy2, fun z hz hzs => hy3 z ((HNm.out z).2 hz) hzs⟩
      have hyl := HF.out.lt y hy2
      have hdy := (HF.out.steps y hy2).le
      by_cases hye : y = e
      · subst hye
        have HQ : Hid (RoundTells l y (r ++ [x])) := hid1 (.inr ⟨by simp, by simp; omega, fun hl => HT.out.cycle HF.out hN hl⟩)
        have HNi : Hid (NIRow w5 v4 (r ++ [x])) := hid1 (NRow.of_owns (n := r.length + 1) (by simpa using HO5.out)).ni
        clear HLa HNm hy3 hN HM
        go_wp2
        go_ret
        exact ⟨_, _, rfl, G5, HNi.out, HQ.out⟩
      · have HQ := hid1 (HT.out.more hN hye)
        have HMe : Hid ((if slen v4 = 0 then l.length + 2 else d y) < (if slen u6 = 0 then l.length + 2 else d x) ∧ (r ++ [x]).length + (if (r ++ [x]).length = 0 then l.length + 2 else d y) ≤ l.length + 2) := hid1 (by
          rw [hs5, hsl]
          have hM := HM.out
          rcases HLa.out with ⟨h0, _⟩ | ⟨h0, h1, h2⟩
          · subst h0
            simp
            omega
          · have hrp : 0 < r.length := List.length_pos_iff.2 h0
            have := HF.out.down h1 h2 hN
            rw [if_neg (by omega)] at hM
            rw [if_neg (by omega), if_neg (by omega), if_neg (by simp)]
            simp
            omega)
        have hb1 : ((y : Int) == (e : Int)) = false := by simp; omega
        have hb2 : ¬ y = e := hye
        clear HLa HNm hy3 hN HM hs5 hsl
        go_wp2
        exact ⟨⟨r ++ [x], y, rfl, by simpa using HO5.out, HQ.out, HMe.out.2, B5⟩, by simpa [intOf] using HMe.out.1⟩
end Go.Proofs.YtmeplgihnlpjcaaGreatDoor
/- Package graph's Cycle: the walk; what package graph's functions tell. -/
namespace Go.Proofs.YtmeplgihnlpjcaaGreatDoor
open Go.RowKit Go.Shelf Go.Lib

set_option maxRecDepth 100000 in
set_option maxHeartbeats 16000000 in
theorem gCycle_calls {w : World} {es : Nat → Addr} (hW : SheetW w es) (v : Value) (l : List Ru) (hrow : RRow w v l) (hn : l.length ≤ 1000) (hS : ∀ x ∈ l, x.Small) :
    Calls Tryz.prog 8 #[v] w fun e w' => ∃ u ev, e = .returned (.tuple #[u, ev]) ∧ Below w.heap.size w w' ∧ CycleTells es l w' u ev := by
  have HL := hid1 (grlook_calls hW v l hrow hn hS)
  have H12 : Hid (∀ i (hi : i < l.length), l[i].ins.length ≤ 12) := hid1 fun i hi => (hS _ (List.getElem_mem hi)).many
  obtain ⟨pr, cap, rfl, -⟩ := hrow
  have zn : (l.length : Int) ≤ 1000 := by omega
  clear hS hW
  go_enter Tryz.func8, Tryz.ntmps8
  go_wp2_with fail
  refine HL.out.mono ?_
  rintro e w1 ⟨u, ev, rfl, g1, hT⟩
  rcases hT with ⟨hf, hE, rfl, t, x, rfl⟩ | ⟨hf, rfl, p, bm, G, vals, rfl, hSh⟩
  · have HE := hid1 hE
    have HZ := hid1 hf
    clear HL hE hf
    go_wp2
    go_ret2
    exact ⟨_, _, rfl, g1, .inl ⟨HZ.out, HE.out, _, _, rfl⟩⟩
  · obtain ⟨h40, hA⟩ := Ru.fault_ok hf
    have HZ := hid1 hf
    have HA := hid1 hA
    have HSh := hid1 hSh
    have htop := hSh.c1
    clear HL hf hA hSh
    go_wp2
    go_loopw [21] (fun iv wr => ∃ i : Nat, i ≤ l.length ∧ iv = .int .i64 i ∧ (∀ j t, j < i → ¬ Ru.Walk l j j (t + 1)) ∧ Below w1.heap.size w1 wr) (fun iv _ => l.length - (intOf iv).toNat)
    case atStart => exact ⟨0, Nat.zero_le _, rfl, fun j _ h => absurd h (Nat.not_lt_zero j), Below.refl _ _⟩
    case round =>
      obtain ⟨i, hil, rfl, hw, B⟩ := hrel
      have HW := hid1 hw
      clear hw
      have i0 : (0 : Int) ≤ (i : Int) := by omega
      by_cases hlt : i < l.length
      · have i1 : (i : Int) < (l.length : Int) := by omega
        have HR := hid1 (grround_calls (HSh.out.below B) HA.out (by omega) H12.out i hlt)
        go_wp2_with fail
        refine HR.out.mono ?_
        rintro e w3 ⟨u3, c, rfl, g3, hni, hT⟩
        have B3 := below_then B g3
        have G3 := below_then g1 B3
        clear HR g3
        rcases hT with ⟨rfl, hno⟩ | ⟨hne, hcl, hcy⟩
        · have HQ : Hid (∀ j t, j < i + 1 → ¬ Ru.Walk l j j (t + 1)) := hid1 fun j t hj => by
            by_cases ej : j = i
            · subst ej; exact hno t
            · exact HW.out j t (by omega)
          obtain ⟨p3, c3, rfl, -⟩ := hni
          clear HW hno
          simp only [List.length_nil]
          go_wp2
          exact ⟨⟨i + 1, by omega, by go_num, HQ.out, B3⟩, by simp [intOf]; omega⟩
        · have HQ := hid1 (hcy HW.out)
          have HN := hid1 hni
          have hcp : 0 < c.length := List.length_pos_iff.2 hne
          have hc1 : (0 : Int) < (c.length : Int) := by omega
          have hc2 : (c.length : Int) ≤ 1000 := by omega
          obtain ⟨p3, c3, rfl, -⟩ := hni
          clear HW hcy
          go_wp2
          go_ret2
          exact ⟨_, _, rfl, G3, .inr ⟨HZ.out, rfl, c, HQ.out, HN.out⟩⟩
      · have i1 : (l.length : Int) ≤ (i : Int) := by omega
        have HQ : Hid (Ru.IsCycle l []) := hid1 (Ru.IsCycle.nil fun j t hj => HW.out j t (by omega))
        have G3 := below_then g1 B
        clear HW
        go_wp2
        go_ret2
        exact ⟨_, _, rfl, G3, .inr ⟨HZ.out, rfl, [], HQ.out, ⟨none, 0, rfl, fun h => absurd rfl h⟩⟩⟩

/-- What package graph's functions tell. -/
theorem graphs (es : Nat → Addr) : Graphs es :=
  ⟨fun _ v l hW hr hn hS => gOrder_calls hW v l hr hn hS,
   fun _ v l hW hr hn hS => gCycle_calls hW v l hr hn hS,
   fun _ v l vo outs hW h0 hr hn hS ho hol _ => gNeeds_calls hW h0 v l hr hn hS vo outs ho hol,
   fun _ v l hW hr hn hS => gLeaves_calls hW v l hr hn hS⟩
end Go.Proofs.YtmeplgihnlpjcaaGreatDoor
