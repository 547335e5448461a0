import Derived.Test.YtbgkfmodbofalaaGreatDoorPL07
import Derived.Test.YtbgkfmodbofalaaGreatDoorPL09
import Derived.Deep.RegionHeld3
namespace Go.Proofs.YtbgkfmodbofalaaGreatDoor
open Go.RowKit Go.Shelf Go.Lib
set_option maxRecDepth 100000 in
set_option maxHeartbeats 4000000 in
theorem NeedsRule_calls {w : World} (v : Value) (l : List Ru) (hrow : RRow w v l) (hl : ∀ x ∈ l, x.ins.length ≤ 1000000) (i k : Nat) (hi : i < l.length) (hk : k < l.length) :
    Calls Tryz.prog 56 #[v, .int .i64 i, .int .i64 k] w fun e w' => e = .returned (.bool (Ru.needs l i k)) ∧ ∃ q, w' = w.drewN q := by
  obtain ⟨p, cap, rfl, hcap, hnn, hin⟩ := hrow
  obtain ⟨g, o, rfl, hg, hcur⟩ := hin (by intro e; rw [e] at hi; simp at hi)
  obtain ⟨-, -, -, u, d3, ux⟩ := hcur i hi
  obtain ⟨d0, -⟩ := hcur k hk
  have HX := hid1 fun W (hW : Below w.heap.size w W) => rIndex_calls u l[i].ins l[k].out (ux.below hW).irow (hl _ (List.getElem_mem hi))
  have HQ := hid1 (Ru.needs_eq hi hk)
  have ci : (i : Int) < (l.length : Int) := by omega
  have ck : (k : Int) < (l.length : Int) := by omega
  have c0 : (0 : Int) ≤ (i : Int) := by omega
  have c1 : (0 : Int) ≤ (k : Int) := by omega
  obtain ⟨p3, cap3, rfl, -⟩ := ux
  have HL : Hid (∀ r : Int, ((r = -1 ∧ l[k].out ∉ l[i].ins) ∨ ∃ j : Nat, r = j ∧ ∃ h : j < l[i].ins.length, l[i].ins[j] = l[k].out ∧ l[k].out ∉ l[i].ins.take j) → decide (0 ≤ r) = Ru.needs l i k) := hid1 fun r h => by
    rw [HQ.out, decide_eq_decide]
    rcases h with ⟨rfl, h⟩ | ⟨j, rfl, hj, he, _⟩
    · exact ⟨fun h => by omega, fun h' => absurd h' h⟩
    · exact ⟨fun _ => by rw [← he]; exact List.getElem_mem hj, fun _ => by omega⟩
  clear hin hcur hl hnn HQ
  generalize Ru.needs l i k = d at *
  generalize l[k].out = y at *
  go_enter Tryz.func56, Tryz.ntmps56
  go_wp2
  go_region_held3 (fun w' => w'.cell? ⟨g, o + i * 4 + 3, none⟩ = some (.slice p3 l[i].ins.length cap3) ∧ w'.cell? ⟨g, o + k * 4, none⟩ = some (.string (ba y))) (first | go_keep | fail)
    (first | (go_at_call 57; refine (HX.out _ (by exact (Below.refl _ w).drew)).mono ?_; rintro e w5 ⟨r, rfl, rfl, hix⟩; have hdd := HL.out r hix) | fail)
  all_goals
    go_wp2
    go_ret
    exact ⟨rfl, 1, rfl⟩
end Go.Proofs.YtbgkfmodbofalaaGreatDoor
namespace Go.Proofs.YtbgkfmodbofalaaGreatDoor
open Go.RowKit Go.Shelf Go.Lib
def nxV : Option Nat → Value
  | none => .int .i64 (-1)
  | some i => .int .i64 (i : Int)
theorem isIn_snoc (o : List Nat) (i j : Nat) : (if j = i then true else Ru.isIn o j) = Ru.isIn (o ++ [i]) j := by
  unfold Ru.isIn
  by_cases e : j = i
  · simp [e]
  · simp [e]
theorem owns_far {w : World} {base base' : Nat} {e e' : TypeId} {size size' : Nat} {v : Value} {g m c n n' : Nat} {xs xs' : List Value} (h : w.ownsRow base e size v n xs) (hu : w.ownsRow base' e' size' (.slice (some ⟨g, 0, none⟩) m c) n' xs') (he : e ≠ e') : v.ownBlock ≠ some g := by
  rcases h.2 with ⟨rfl, _⟩ | ⟨b, cap, cur, rfl, _, hb, _⟩
  · simp [Value.ownBlock]
  · rcases hu.2 with ⟨h', _⟩ | ⟨g', cap', cur', h', _, hb', _⟩
    · cases h'
    · cases h'
      simp only [Value.ownBlock, ne_eq, Option.some.injEq]
      rintro rfl
      rw [hb] at hb'
      simp at hb'
      exact he hb'.2
theorem len_le : ∀ {n : Nat} {o : List Nat}, o.Nodup → (∀ i ∈ o, i < n) → o.length ≤ n
  | 0, o, _, hb => by
    cases o with
    | nil => simp
    | cons a r => exact absurd (hb a (by simp)) (by omega)
  | n + 1, o, hd, hb => by
    have h1 := len_le (n := n) (hd.erase n) (fun i hi => by
      obtain ⟨hne, hm⟩ := (List.Nodup.mem_erase_iff hd).1 hi
      have := hb i hm
      omega)
    by_cases hm : n ∈ o
    · rw [List.length_erase_of_mem hm] at h1
      omega
    · rw [List.erase_of_not_mem hm] at h1
      omega
set_option maxRecDepth 100000 in
set_option maxHeartbeats 16000000 in
theorem OrderOf_calls {w : World} (v : Value) (l : List Ru) (hrow : RRow w v l) (hn : l.length ≤ 1000) (hl : ∀ x ∈ l, x.ins.length ≤ 1000000) (gs cs : Nat) (sm : Nat → Bool) (hs : ∀ j, j < l.length → w.cell? ⟨gs, j, none⟩ = some (.bool (sm j))) :
    Calls Tryz.prog 49 #[v, .slice (some ⟨gs, 0, none⟩) l.length cs] w fun e w' => ∃ u b, e = .returned (.tuple #[u, .bool b]) ∧ Below w.heap.size w w' ∧ ((b = false ∧ u = .slice none 0 0 ∧ Ru.order l sm = none) ∨ ∃ o, b = true ∧ Ru.order l sm = some o ∧ NRow w' u o ∧ o.Nodup ∧ ∀ i ∈ o, i < l.length) := by
  obtain ⟨i0, hi, hz0, hz1, hz2⟩ := info_parts Tryz.infoBool
  obtain ⟨i1, hI, hI0, hI1, hI2⟩ := info_parts Tryz.infoInt
  have HNeed := hid1 fun W (hW : Below w.heap.size w W) i k (hi : i < l.length) (hk : k < l.length) => NeedsRule_calls v l (hrow.below hW) hl i k hi hk
  have HSm := hid1 fun W (hW : Below w.heap.size w W) j (hj : j < l.length) => cell_below' (hs j hj) hW
  obtain ⟨p, cap, rfl, -⟩ := hrow
  have hml : l.length ≤ maxLen := by unfold maxLen; omega
  have hby : i0.bytes * l.length ≤ 281474976710656 := by rw [hz2]; omega
  have zn : (l.length : Int) ≤ 1000 := by omega
  have n1 : World.ownsRow w w.heap.size 3 1 (.slice none 0 0) 0 (([] : List Nat).map nv) := World.ownsRow_nil _ _ _ _
  clear hs
  go_enter Tryz.func49, Tryz.ntmps49
  go_wp2_with (at_make; refine wpList_make_full _ rfl _ _ 80 rfl w.heap.size 4 i0 (.bool false) 1 Tryz.underlying80 hi hz0 hz1 .i64 .i64 _ _ l.length rfl rfl (by omega) (by omega) hby hml (Nat.le_refl _) ?_; intro w1 hown hgrow; have O1 := made_row hown)
  have B1 : Below w.heap.size w w1 := below_grown (Below.refl _ w) (Nat.le_refl _) hgrow
  have N1 : World.ownsRow w1 w.heap.size 3 1 (.slice none 0 0) 0 (([] : List Nat).map nv) := World.ownsRow_nil _ _ _ _
  have O2 : Own w1 w.heap.size w.heap.size l.length (Ru.isIn []) := by
    have e : Ru.isIn [] = fun _ => false := by funext j; simp [Ru.isIn]
    rw [e]
    exact O1
  clear hown hgrow O1 n1
  go_loopw [6] (fun out wr => ∃ o : List Nat, wr.ownsRow w.heap.size 3 1 out o.length (o.map nv) ∧ Own wr w.heap.size w.heap.size l.length (Ru.isIn o) ∧ o.Nodup ∧ (∀ i ∈ o, i < l.length) ∧ Ru.orderF l sm (l.length + 1 - o.length) o = Ru.order l sm ∧ Below w.heap.size w wr) (fun out _ => l.length + 1 - slen out)
  case atStart => exact ⟨[], N1, O2, List.nodup_nil, by simp, rfl, B1⟩
  case round =>
    obtain ⟨o, hout, O, hnd, hlt, hord, B⟩ := hrel
    have HOut := hid1 hout
    have HO := hid1 O
    have Hnd := hid1 hnd
    have Hlt := hid1 hlt
    have Hord := hid1 hord
    clear N1 O2 B1 hout O hnd hlt hord
    have hlen := len_le Hnd.out Hlt.out
    generalize wr = w2 at *
    have HCd : Hid (∀ W q, W = w2.drewN q → ∀ j, j < l.length → W.cell? ⟨w.heap.size, j, none⟩ = some (.bool (Ru.isIn o j))) := hid1 fun W q e j hj => by
      subst e
      exact HO.out.cell hj
    go_wp2
    go_loopw [8, 9, 10] (fun nx lf i wx => ∃ k q : Nat, k ≤ l.length ∧ i = .int .i64 k ∧ lf = .bool (Ru.leftTo sm (Ru.isIn o) k) ∧ nx = nxV (Ru.nextTo l sm (Ru.isIn o) k) ∧ wx = w2.drewN q) (fun _ _ i _ => l.length - (intOf i).toNat)
    case atStart => exact ⟨0, 0, Nat.zero_le _, rfl, rfl, rfl, rfl⟩
    case round =>
      obtain ⟨k, q, hk, rfl, rfl, rfl, rfl⟩ := hrel
      have c0 : (0 : Int) ≤ (k : Int) := by omega
      by_cases hkl : k < l.length
      · have c1 : (k : Int) < (l.length : Int) := by omega
        have hdk := HCd.out _ q rfl k hkl
        have hsk := HSm.out (w2.drewN q) (below_draws B q) k hkl
        have HL := hid1 (Ru.leftTo_succ sm (Ru.isIn o) k)
        have HN := hid1 (Ru.nextTo_succ l sm (Ru.isIn o) k)
        have HM : Hid (Ru.may l sm (Ru.isIn o) k = (sm k && !Ru.isIn o k && Ru.freeTo l (Ru.isIn o) k l.length)) := hid1 rfl
        cases hd : Ru.isIn o k with
        | true =>
          rw [hd] at hdk HL HM
          have HL2 : Hid (Ru.leftTo sm (Ru.isIn o) (k + 1) = Ru.leftTo sm (Ru.isIn o) k) := hid1 (by rw [HL.out]; simp)
          have HN2 : Hid (Ru.nextTo l sm (Ru.isIn o) (k + 1) = Ru.nextTo l sm (Ru.isIn o) k) := hid1 (by rw [HN.out, HM.out]; simp)
          clear HL HN HM hd hsk
          go_wp2
          exact ⟨⟨k + 1, q, by omega, by go_num, by rw [HL2.out], by rw [HN2.out], rfl⟩, by simp [intOf]; omega⟩
        | false =>
          rw [hd] at hdk HL HM
          cases hsm : sm k with
          | false =>
            rw [hsm] at hsk HL HM
            have HL2 : Hid (Ru.leftTo sm (Ru.isIn o) (k + 1) = Ru.leftTo sm (Ru.isIn o) k) := hid1 (by rw [HL.out]; simp)
            have HN2 : Hid (Ru.nextTo l sm (Ru.isIn o) (k + 1) = Ru.nextTo l sm (Ru.isIn o) k) := hid1 (by rw [HN.out, HM.out]; simp)
            clear HL HN HM hd hsm
            go_wp2
            exact ⟨⟨k + 1, q, by omega, by go_num, by rw [HL2.out], by rw [HN2.out], rfl⟩, by simp [intOf]; omega⟩
          | true =>
            rw [hsm] at hsk HL HM
            have HL2 : Hid (Ru.leftTo sm (Ru.isIn o) (k + 1) = true) := hid1 (by rw [HL.out]; simp)
            clear HL hd hsm
            generalize hnx : Ru.nextTo l sm (Ru.isIn o) k = nx at *
            clear hnx
            go_wp2
            go_loopw [11, 12] (fun fr kk wy => ∃ m q' : Nat, m ≤ l.length ∧ kk = .int .i64 m ∧ fr = .bool (Ru.freeTo l (Ru.isIn o) k m) ∧ wy = w2.drewN q') (fun _ kk _ => l.length - (intOf kk).toNat)
            case atStart => exact ⟨0, q, Nat.zero_le _, rfl, rfl, rfl⟩
            case round =>
              clear hdk hsk
              obtain ⟨m, q', hm, rfl, rfl, rfl⟩ := hrel
              have m0 : (0 : Int) ≤ (m : Int) := by omega
              by_cases hml2 : m < l.length
              · have m1 : (m : Int) < (l.length : Int) := by omega
                have hdm := HCd.out _ q' rfl m hml2
                have HF := hid1 (Ru.freeTo_succ l (Ru.isIn o) k m)
                cases hdd : Ru.isIn o m with
                | true =>
                  rw [hdd] at hdm HF
                  have HF2 : Hid (Ru.freeTo l (Ru.isIn o) k (m + 1) = Ru.freeTo l (Ru.isIn o) k m) := hid1 (by rw [HF.out]; simp)
                  clear HF hdd
                  go_wp2
                  exact ⟨⟨m + 1, q', by omega, by go_num, by rw [HF2.out], rfl⟩, by simp [intOf]; omega⟩
                | false =>
                  rw [hdd] at hdm HF
                  have HC := HNeed.out _ (below_draws B q') k m hkl hml2
                  cases hnd : Ru.needs l k m with
                  | true =>
                    rw [hnd] at HC HF
                    have HF2 : Hid (Ru.freeTo l (Ru.isIn o) k (m + 1) = false) := hid1 (by rw [HF.out]; simp)
                    clear HF hdd hnd
                    go_wp2_with fail
                    refine Calls.mono HC ?_
                    rintro e w3 ⟨rfl, q3, rfl⟩
                    clear HC
                    go_wp2
                    exact ⟨⟨m + 1, q' + q3, by omega, by go_num, by rw [HF2.out], by simp [World.drewN]⟩, by simp [intOf]; omega⟩
                  | false =>
                    rw [hnd] at HC HF
                    have HF2 : Hid (Ru.freeTo l (Ru.isIn o) k (m + 1) = Ru.freeTo l (Ru.isIn o) k m) := hid1 (by rw [HF.out]; simp)
                    clear HF hdd hnd
                    go_wp2_with fail
                    refine Calls.mono HC ?_
                    rintro e w3 ⟨rfl, q3, rfl⟩
                    clear HC
                    go_wp2
                    exact ⟨⟨m + 1, q' + q3, by omega, by go_num, by rw [HF2.out], by simp [World.drewN]⟩, by simp [intOf]; omega⟩
              · have m1 : (l.length : Int) ≤ (m : Int) := by omega
                obtain rfl : m = l.length := by omega
                simp only [Bool.not_false, Bool.and_true, Bool.true_and] at HM
                rw [HM.out] at HN
                generalize Ru.freeTo l (Ru.isIn o) k l.length = fr at *
                clear HM
                cases fr with
                | true =>
                  cases nx with
                  | none =>
                    have HN2 : Hid (Ru.nextTo l sm (Ru.isIn o) (k + 1) = some k) := hid1 (by rw [HN.out]; rfl)
                    clear HN
                    simp only [nxV]
                    go_wp2
                    exact ⟨⟨k + 1, q', by omega, by go_num, by rw [HL2.out], by rw [HN2.out]; rfl, rfl⟩, by simp [intOf]; omega⟩
                  | some j =>
                    have HN2 : Hid (Ru.nextTo l sm (Ru.isIn o) (k + 1) = some j) := hid1 (by rw [HN.out]; rfl)
                    have j0 : (0 : Int) ≤ (j : Int) := by omega
                    clear HN
                    simp only [nxV]
                    go_wp2
                    exact ⟨⟨k + 1, q', by omega, by go_num, by rw [HL2.out], by rw [HN2.out]; rfl, rfl⟩, by simp [intOf]; omega⟩
                | false =>
                  have HN2 : Hid (Ru.nextTo l sm (Ru.isIn o) (k + 1) = nx) := hid1 (by rw [HN.out]; cases nx <;> rfl)
                  clear HN
                  go_wp2
                  exact ⟨⟨k + 1, q', by omega, by go_num, by rw [HL2.out], by rw [HN2.out], rfl⟩, by simp [intOf]; omega⟩
      · have c1 : (l.length : Int) ≤ (k : Int) := by omega
        obtain rfl : k = l.length := by omega
        have HStep : Hid (Ru.orderF l sm (l.length + 1 - o.length) o = if Ru.leftTo sm (Ru.isIn o) l.length = true then (match Ru.nextTo l sm (Ru.isIn o) l.length with | none => none | some i => Ru.orderF l sm (l.length - o.length) (o ++ [i])) else some o) := hid1 (by
          rw [show l.length + 1 - o.length = (l.length - o.length) + 1 by omega]
          rfl)
        have HNx := hid1 fun i => Ru.nextTo_some (l := l) (some := sm) (done := Ru.isIn o) (m := l.length) (i := i)
        cases hlf : Ru.leftTo sm (Ru.isIn o) l.length with
        | false =>
          have HR : Hid (Ru.order l sm = some o) := hid1 (by rw [← Hord.out, HStep.out, hlf]; rfl)
          have hN : NRow (w2.drewN q) u6 o := NRow.of_owns (w := w2.drewN q) HOut.out
          clear HStep HNx hlf
          go_wp2
          go_ret2
          exact ⟨_, true, rfl, below_draws B q, .inr ⟨o, rfl, HR.out, hN, Hnd.out, Hlt.out⟩⟩
        | true =>
          cases hnx : Ru.nextTo l sm (Ru.isIn o) l.length with
          | none =>
            have HR : Hid (Ru.order l sm = none) := hid1 (by rw [← Hord.out, HStep.out, hlf, hnx]; rfl)
            clear HStep HNx hlf hnx
            simp only [nxV]
            go_wp2
            go_ret2
            exact ⟨_, false, rfl, below_draws B q, .inl ⟨rfl, rfl, HR.out⟩⟩
          | some j =>
            obtain ⟨hjl, hjm⟩ := HNx.out j hnx
            have HR : Hid (Ru.orderF l sm (l.length - o.length) (o ++ [j]) = Ru.order l sm) := hid1 (by rw [← Hord.out, HStep.out, hlf, hnx]; rfl)
            have hjo : j ∉ o := by
              intro hm
              simp [Ru.may, Ru.isIn, hm] at hjm
            have hnd' : (o ++ [j]).Nodup := by
              rw [List.nodup_append]
              exact ⟨Hnd.out, by simp, fun a ha b hb => by
                rw [List.mem_singleton.1 hb]
                rintro rfl
                exact hjo ha⟩
            have hlt' : ∀ i ∈ o ++ [j], i < l.length := fun i hi => by
              rcases List.mem_append.1 hi with h | h
              · exact Hlt.out i h
              · rw [List.mem_singleton.1 h]; exact hjl
            have Hnd2 := hid1 hnd'
            have Hlt2 := hid1 hlt'
            have hlen2 := len_le hnd' hlt'
            rw [List.length_append, List.length_singleton] at hlen2
            have O3 : Own (w2.drewN q) w.heap.size w.heap.size l.length (Ru.isIn o) := HO.out
            have R3 : (w2.drewN q).ownsRow w.heap.size 3 1 u6 o.length (o.map nv) := HOut.out
            have hcj := O3.cell hjl
            have hfj := World.ownsRow.frozenAt O3 j
            have O4 : Own ((w2.drewN q).setCell ⟨w.heap.size, j, none⟩ (.bool true)) w.heap.size w.heap.size l.length (Ru.isIn (o ++ [j])) := O3.set j true fun i _ => isIn_snoc o j i
            have R4 : ((w2.drewN q).setCell ⟨w.heap.size, j, none⟩ (.bool true)).ownsRow w.heap.size 3 1 u6 o.length (o.map nv) := ownsRow_setCell_other R3 (by
              have := owns_far R3 O3 (by decide)
              simpa using this) (.bool true)
            have B4 := (below_draws B q).setCell (p := ⟨w.heap.size, j, none⟩) (Nat.le_refl _) (.bool true)
            have hs4 := owns_slen R4
            have hml3 : o.length + 1 ≤ maxLen := by unfold maxLen; omega
            have hbz : w.heap.size ≤ ((w2.drewN q).setCell ⟨w.heap.size, j, none⟩ (.bool true)).heap.size := B4.size
            have hbz2 : w.heap.size ≤ w2.heap.size := B.size
            have j0 : (0 : Int) ≤ (j : Int) := by omega
            have j1 : (j : Int) < (l.length : Int) := by omega
            clear HStep HNx hlf hnx O3 R3 hnd' hlt' hjo hjm
            simp only [nxV]
            go_wp2_with (at_builtin; refine wpList_append_own _ rfl _ _ 68 rfl w.heap.size 3 i1 (.int .i64 0) 1 8 Tryz.underlying68 hI hI0 hI1 hI2 rfl (by decide) _ _ _ rfl (R4.alloc _) ⟨w2.heap.size, 0, none⟩ 1 1 [nv j] rfl rfl (one_new _ _ _ _ (by simp)) (by simp [Value.oneCell']) hml3 (by omega) (by simp; omega) ?_; intro v' w4 hown' hgrow _)
            have hs5 := owns_slen hown'
            refine ⟨⟨o ++ [j], by simpa using hown', ?_, Hnd2.out, Hlt2.out, ?_, below_appended B4 hbz R4 hgrow⟩, by rw [hs5, hs4]; omega⟩
            · exact owns_other (World.ownsRow.alloc O4 _) (R4.alloc _) (by decide) hgrow
            · rw [List.length_append, List.length_singleton, show l.length + 1 - (o.length + 1) = l.length - o.length by omega]
              exact HR.out
end Go.Proofs.YtbgkfmodbofalaaGreatDoor
namespace Go.Proofs.YtbgkfmodbofalaaGreatDoor
open Go.RowKit Go.Shelf Go.Lib
namespace Ru
inductive Walk (l : List Ru) : Nat → Nat → Nat → Prop
  | zero (i : Nat) : Walk l i i 0
  | step {i j k t : Nat} : needs l i j = true → Walk l j k t → Walk l i k (t + 1)
theorem Walk.trans {l : List Ru} {i j k s t : Nat} (h : Walk l i j s) (h' : Walk l j k t) : Walk l i k (s + t) := by
  induction h with
  | zero i => rw [Nat.zero_add]; exact h'
  | step hn _ ih => rw [Nat.add_right_comm]; exact .step hn (ih h')
theorem Walk.one {l : List Ru} {i k : Nat} (h : needs l i k = true) : Walk l i k 1 := .step h (.zero k)
theorem Walk.inv {l : List Ru} {i k t : Nat} (h : Walk l i k (t + 1)) : ∃ j, needs l i j = true ∧ Walk l j k t := by
  cases h with
  | step hn hw => exact ⟨_, hn, hw⟩
theorem Walk.last {l : List Ru} {i k t : Nat} (h : Walk l i k (t + 1)) : ∃ j, Walk l i j t ∧ needs l j k = true := by
  induction t generalizing i with
  | zero =>
    obtain ⟨j, hn, hw⟩ := h.inv
    cases hw
    exact ⟨i, .zero i, hn⟩
  | succ t ih =>
    obtain ⟨j, hn, hw⟩ := h.inv
    obtain ⟨m, h1, h2⟩ := ih hw
    exact ⟨m, .step hn h1, h2⟩
theorem Walk.lt {l : List Ru} {i k t : Nat} (h : Walk l i k (t + 1)) : i < l.length ∧ k < l.length := by
  obtain ⟨j, hn, _⟩ := h.inv
  obtain ⟨m, _, hm⟩ := h.last
  exact ⟨(needs_lt hn).1, (needs_lt hm).2⟩
def Dist (l : List Ru) (i k t : Nat) : Prop := 1 ≤ t ∧ Walk l i k t ∧ ∀ s, 1 ≤ s → Walk l i k s → t ≤ s
theorem Dist.unique {l : List Ru} {i k s t : Nat} (h : Dist l i k s) (h' : Dist l i k t) : s = t :=
  Nat.le_antisymm (h.2.2 t h'.1 h'.2.1) (h'.2.2 s h.1 h.2.1)
theorem pigeon {n : Nat} {g : Nat → Nat} (h : ∀ t, t ≤ n → g t < n) : ∃ a b, a < b ∧ b ≤ n ∧ g a = g b := by
  refine Classical.byContradiction fun hno => ?_
  have hd : ((List.range (n + 1)).map g).Nodup := by
    rw [List.nodup_iff_pairwise_ne, List.pairwise_map]
    refine List.Pairwise.imp_of_mem ?_ List.pairwise_lt_range
    intro a b _ hb hab e
    exact hno ⟨a, b, hab, by have := List.mem_range.1 hb; omega, e⟩
  have := len_le (n := n) hd (fun i hi => by
    obtain ⟨t, ht, rfl⟩ := List.mem_map.1 hi
    exact h t (by have := List.mem_range.1 ht; omega))
  simp at this
  omega
theorem Dist.first {l : List Ru} {i k t : Nat} (h : Dist l i k (t + 2)) : ∃ j, needs l i j = true ∧ Dist l j k (t + 1) := by
  obtain ⟨j, hn, hw⟩ := h.2.1.inv
  refine ⟨j, hn, by omega, hw, fun s hs hws => ?_⟩
  have := h.2.2 (s + 1) (by omega) (.step hn hws)
  omega
structure IsCycle (l : List Ru) (c : List Nat) : Prop where
  none : c = [] → ∀ i t, ¬ Walk l i i (t + 1)
  first : ∀ (h : 0 < c.length), (∀ j t, j < c[0] → ¬ Walk l j j (t + 1)) ∧ Dist l c[0] c[0] c.length
  next : ∀ j (h : j + 1 < c.length), needs l c[j] c[j + 1] = true ∧ Dist l c[j + 1] c[0] (c.length - 1 - j) ∧ ∀ k, k < c[j + 1] → ¬ (needs l c[j] k = true ∧ Dist l k c[0] (c.length - 1 - j))
theorem IsCycle.lt {l : List Ru} {c : List Nat} (h : IsCycle l c) (j : Nat) (hj : j < c.length) : c[j] < l.length := by
  cases j with
  | zero =>
    have := (h.first hj).2
    obtain ⟨t, ht⟩ : ∃ t, c.length = t + 1 := ⟨c.length - 1, by omega⟩
    have hw := this.2.1
    rw [ht] at hw
    exact hw.lt.1
  | succ j => exact (needs_lt (h.next j hj).1).2
theorem IsCycle.round {l : List Ru} {c : List Nat} (h : IsCycle l c) (j : Nat) (hj : j < c.length) : needs l c[j] (c[(j + 1) % c.length]'(Nat.mod_lt _ (by omega))) = true := by
  by_cases hlt : j + 1 < c.length
  · simp only [Nat.mod_eq_of_lt hlt]
    exact (h.next j hlt).1
  · have e : j + 1 = c.length := by omega
    simp only [e, Nat.mod_self]
    have hd : Dist l c[j] (c[0]'(by omega)) 1 := by
      cases j with
      | zero =>
        have := (h.first hj).2
        rw [← e] at this
        exact this
      | succ i =>
        have := (h.next i hj).2.1
        rw [show c.length - 1 - i = 1 by omega] at this
        exact this
    obtain ⟨m, hn, hw⟩ := Walk.inv hd.2.1
    cases hw
    exact hn
theorem IsCycle.unique {l : List Ru} {c c' : List Nat} (h : IsCycle l c) (h' : IsCycle l c') : c = c' := by
  by_cases e : c = []
  · subst e
    by_cases e' : c' = []
    · exact e'.symm
    · have hp : 0 < c'.length := List.length_pos_iff.2 e'
      have hd := (h'.first hp).2
      obtain ⟨t, ht⟩ : ∃ t, c'.length = t + 1 := ⟨c'.length - 1, by omega⟩
      have hw := hd.2.1
      rw [ht] at hw
      exact absurd hw (h.none rfl _ _)
  · have hp : 0 < c.length := List.length_pos_iff.2 e
    have hd := (h.first hp).2
    by_cases e' : c' = []
    · obtain ⟨t, ht⟩ : ∃ t, c.length = t + 1 := ⟨c.length - 1, by omega⟩
      have hw := hd.2.1
      rw [ht] at hw
      exact absurd hw (h'.none e' _ _)
    · have hp' : 0 < c'.length := List.length_pos_iff.2 e'
      have hd' := (h'.first hp').2
      have h0 : c[0] = c'[0] := by
        rcases Nat.lt_trichotomy c[0] c'[0] with h1 | h1 | h1
        · obtain ⟨t, ht⟩ : ∃ t, c.length = t + 1 := ⟨c.length - 1, by omega⟩
          have hw := hd.2.1
          rw [ht] at hw
          exact absurd hw ((h'.first hp').1 _ t h1)
        · exact h1
        · obtain ⟨t, ht⟩ : ∃ t, c'.length = t + 1 := ⟨c'.length - 1, by omega⟩
          have hw := hd'.2.1
          rw [ht] at hw
          exact absurd hw ((h.first hp).1 _ t h1)
      have hlen : c.length = c'.length := by
        rw [h0] at hd
        exact hd.unique hd'
      have all : ∀ j (hj : j < c.length), c[j] = c'[j]'(by omega) := by
        intro j
        induction j with
        | zero => intro _; exact h0
        | succ j ih =>
          intro hj
          have hj' : j + 1 < c'.length := by omega
          have e1 := ih (by omega)
          obtain ⟨a1, a2, a3⟩ := h.next j hj
          obtain ⟨b1, b2, b3⟩ := h'.next j hj'
          rw [e1] at a1 a3
          rw [h0, hlen] at a2
          rw [h0] at a3
          rcases Nat.lt_trichotomy c[j + 1] c'[j + 1] with h1 | h1 | h1
          · exact absurd ⟨a1, a2⟩ (b3 _ h1)
          · exact h1
          · exact absurd ⟨b1, by rw [show c.length - 1 - j = c'.length - 1 - j by rw [hlen]]; exact b2⟩ (a3 _ h1)
      exact List.ext_getElem hlen fun j h1 _ => all j h1
def Topo (l : List Ru) (o : List Nat) : Prop := ∀ j (hj : j < o.length) k, needs l o[j] k = true → k ∈ o.take j
theorem orderF_some {l : List Ru} {some : Nat → Bool} : ∀ {f : Nat} {o r : List Nat}, orderF l some f o = Option.some r → Topo l o → Topo l r ∧ ∀ i, i < l.length → some i = true → i ∈ r
  | 0, _, _, h, _ => by cases h
  | f + 1, o, r, h, ht => by
    unfold orderF at h
    split at h
    · split at h
      · cases h
      · rename_i i hi
        refine orderF_some h ?_
        have hm := (nextTo_some hi).2
        simp only [may, Bool.and_eq_true, freeTo, List.all_eq_true, Bool.or_eq_true, Bool.not_eq_true'] at hm
        intro j hj k hn
        rw [List.length_append, List.length_singleton] at hj
        by_cases e : j < o.length
        · rw [List.getElem_append_left e] at hn
          rw [List.take_append_of_le_length (by omega)]
          exact ht j e k hn
        · obtain rfl : j = o.length := by omega
          rw [List.getElem_append_right (Nat.le_refl _)] at hn
          simp only [Nat.sub_self, List.getElem_cons_zero] at hn
          rw [List.take_append_of_le_length (Nat.le_refl _), List.take_length]
          rcases hm.2 k (List.mem_range.2 (needs_lt hn).2) with h1 | h1
          · simpa [isIn] using h1
          · rw [hn] at h1
            cases h1
    · rename_i hl
      cases h
      refine ⟨ht, fun i hi hs => ?_⟩
      simp only [leftTo, List.any_eq_true, Bool.and_eq_true, Bool.not_eq_true'] at hl
      refine Classical.byContradiction fun hno => hl ⟨i, List.mem_range.2 hi, hs, ?_⟩
      simpa [isIn] using hno
theorem order_some {l : List Ru} {some : Nat → Bool} {o : List Nat} (h : order l some = Option.some o) : Topo l o ∧ ∀ i, i < l.length → some i = true → i ∈ o :=
  orderF_some h fun j hj => by simp at hj
theorem orderF_nodup {l : List Ru} {some : Nat → Bool} : ∀ {f : Nat} {o r : List Nat}, orderF l some f o = Option.some r → o.Nodup → (∀ i ∈ o, i < l.length) → r.Nodup ∧ ∀ i ∈ r, i < l.length
  | 0, _, _, h, _, _ => by cases h
  | f + 1, o, r, h, hd, hb => by
    unfold orderF at h
    split at h
    · split at h
      · cases h
      · rename_i i hi
        obtain ⟨hil, hm⟩ := nextTo_some hi
        have hio : i ∉ o := by
          simp only [may, Bool.and_eq_true, Bool.not_eq_true', isIn, decide_eq_false_iff_not] at hm
          exact hm.1.2
        refine orderF_nodup h ?_ ?_
        · rw [List.nodup_append]
          exact ⟨hd, by simp, fun a ha b hb => by
            rw [List.mem_singleton.1 hb]
            rintro rfl
            exact hio ha⟩
        · intro j hj
          rcases List.mem_append.1 hj with h1 | h1
          · exact hb j h1
          · rw [List.mem_singleton.1 h1]; exact hil
    · cases h
      exact ⟨hd, hb⟩
theorem order_nodup {l : List Ru} {some : Nat → Bool} {o : List Nat} (h : order l some = Option.some o) : o.Nodup ∧ ∀ i ∈ o, i < l.length :=
  orderF_nodup h List.nodup_nil (by simp)
theorem nodup_sub {α : Type} [DecidableEq α] {a : List α} : ∀ {b : List α}, a.Nodup → a ⊆ b → a.length ≤ b.length := by
  induction a with
  | nil => intro b _ _; simp
  | cons x r ih =>
    intro b hd hs
    obtain ⟨hx, hr⟩ := List.nodup_cons.1 hd
    have hxb : x ∈ b := hs (by simp)
    have := ih (b := b.erase x) hr fun y hy => by
      have hne : y ≠ x := fun e => hx (e ▸ hy)
      exact (List.mem_erase_of_ne hne).2 (hs (List.mem_cons_of_mem _ hy))
    rw [List.length_erase_of_mem hxb] at this
    have hp := List.length_pos_of_mem hxb
    simp
    omega
theorem order_len {l : List Ru} {o : List Nat} (h : order l (fun _ => true) = Option.some o) : o.length = l.length := by
  obtain ⟨h1, h2⟩ := order_nodup h
  refine Nat.le_antisymm (len_le h1 h2) ?_
  have := nodup_sub (a := List.range l.length) (b := o) List.nodup_range fun i hi => (order_some h).2 i (List.mem_range.1 hi) rfl
  simpa using this
theorem Topo.none {l : List Ru} {o : List Nat} (h : Topo l o) (i t : Nat) (hi : i ∈ o) : ¬ Walk l i i (t + 1) := by
  have key : ∀ t i j (hj : j < o.length), o[j] = i → ∀ k, Walk l i k (t + 1) → k ∈ o.take j := by
    intro t
    induction t with
    | zero =>
      rintro i j hj rfl k hw
      obtain ⟨m, hn, hw'⟩ := hw.inv
      cases hw'
      exact h j hj _ hn
    | succ t ih =>
      rintro i j hj rfl k hw
      obtain ⟨m, hn, hw'⟩ := hw.inv
      have hm := h j hj m hn
      obtain ⟨q, hq, e⟩ := List.getElem_of_mem hm
      rw [List.getElem_take] at e
      have hqj : q < j := by simp at hq; omega
      exact (List.take_sublist_take_left (Nat.le_of_lt hqj)).subset (ih m q (by omega) e k hw')
  -- the first place of i
  intro hw
  have : ∀ m j (hj : j < o.length), j ≤ m → o[j] = i → False := by
    intro m
    induction m with
    | zero =>
      intro j hj hm e
      obtain rfl : j = 0 := by omega
      have := key t i 0 hj e i hw
      simp at this
    | succ m ih =>
      intro j hj hm e
      have h1 := key t i j hj e i hw
      obtain ⟨q, hq, e'⟩ := List.getElem_of_mem h1
      rw [List.getElem_take] at e'
      exact ih q (by simp at hq; omega) (by simp at hq; omega) e'
  obtain ⟨j, hj, e⟩ := List.getElem_of_mem hi
  exact this j j hj (Nat.le_refl _) e
end Ru
end Go.Proofs.YtbgkfmodbofalaaGreatDoor
namespace Go.Proofs.YtbgkfmodbofalaaGreatDoor
namespace Bf
def inO (o : List Nat) : Nat → Prop := fun i => i ∈ o
theorem rank_of {l : List Ru} {o : List Nat} (h : Ru.Topo l o) {i k : Nat} (hi : i ∈ o) (hn : Ru.needs l i k = true) : k ∈ o ∧ o.idxOf k < o.idxOf i := by
  have hj : o.idxOf i < o.length := List.idxOf_lt_length_of_mem hi
  have hg : o[o.idxOf i] = i := List.getElem_idxOf hj
  have hk := h (o.idxOf i) hj k (by rw [hg]; exact hn)
  refine ⟨List.mem_of_mem_take hk, ?_⟩
  obtain ⟨q, hq, e⟩ := List.getElem_of_mem hk
  rw [List.length_take] at hq
  rw [List.getElem_take] at e
  have : o.idxOf k ≤ q := by
    refine Nat.le_of_not_lt fun hlt => ?_
    have := List.not_of_lt_findIdx (p := fun y => y == k) (xs := o) hlt
    rw [e] at this
    simp at this
  omega
end Bf
end Go.Proofs.YtbgkfmodbofalaaGreatDoor
