/- The document's answer's OrderOf: the walk. -/
import Derived.Test.YtmeplgihnlpjcaaGreatDoorMG1
import Derived.Test.YtmeplgihnlpjcaaGreatDoorMG2
namespace Go.Proofs.YtmeplgihnlpjcaaGreatDoor
open Go.RowKit Go.Shelf Go.Lib

def nxV : Option Nat → Value
  | none => .int .i64 (-1)
  | some i => .int .i64 (i : Int)

theorem isIn_snoc (o : List Nat) (i j : Nat) : (if j = i then true else Ru.isIn o j) = Ru.isIn (o ++ [i]) j := by
  unfold Ru.isIn
  by_cases e : j = i
  · simp [e]
  · simp [e]

theorem owns_far {w : World} {base base' : Nat} {e e' : TypeId} {size size' : Nat} {v : Value} {g m c n n' : Nat} {xs xs' : List Value} (h : w.ownsRow base e size v n xs) (hu : w.ownsRow base' e' size' (.slice (some ⟨g, 0, none⟩) m c) n' xs') (he : e ≠ e') : v.ownBlock ≠ some g := by
  rcases h.2 with ⟨rfl, _⟩ | ⟨b, cap, cur, rfl, _, hb, _⟩
  · simp [Value.ownBlock]
  · rcases hu.2 with ⟨h', _⟩ | ⟨g', cap', cur', h', _, hb', _⟩
    · cases h'
    · cases h'
      simp only [Value.ownBlock, ne_eq, Option.some.injEq]
      rintro rfl
      rw [hb] at hb'
      simp at hb'
      exact he hb'.2

theorem len_le : ∀ {n : Nat} {o : List Nat}, o.Nodup → (∀ i ∈ o, i < n) → o.length ≤ n
  | 0, o, _, hb => by
    cases o with
    | nil => simp
    | cons a r => exact absurd (hb a (by simp)) (by omega)
  | n + 1, o, hd, hb => by
    have h1 := len_le (n := n) (hd.erase n) (fun i hi => by
      obtain ⟨hne, hm⟩ := (List.Nodup.mem_erase_iff hd).1 hi
      have := hb i hm
      omega)
    by_cases hm : n ∈ o
    · rw [List.length_erase_of_mem hm] at h1
      omega
    · rw [List.erase_of_not_mem hm] at h1
      omega

set_option maxRecDepth 100000 in
set_option maxHeartbeats 16000000 in
theorem OrderOf_calls {w : World} (v : Value) (l : List Ru) (hrow : RRow w v l) (hn : l.length ≤ 1000) (hl : ∀ x ∈ l, x.ins.length ≤ 1000000) (gs cs : Nat) (sm : Nat → Bool) (hs : ∀ j, j < l.length → w.cell? ⟨gs, j, none⟩ = some (.bool (sm j))) :
    Calls Tryz.prog 18 #[v, .slice (some ⟨gs, 0, none⟩) l.length cs] w fun e w' => ∃ u b, e = .returned (.tuple #[u, .bool b]) ∧ Below w.heap.size w w' ∧ ((b = false ∧ u = .slice none 0 0 ∧ Ru.order l sm = none) ∨ ∃ o, b = true ∧ Ru.order l sm = some o ∧ NRow w' u o ∧ o.Nodup ∧ ∀ i ∈ o, i < l.length) := by
  obtain ⟨i0, hi, hz0, hz1, hz2⟩ := info_parts Tryz.infoBool
  obtain ⟨i1, hI, hI0, hI1, hI2⟩ := info_parts Tryz.infoInt
  have HNeed := hid1 fun W (hW : Below w.heap.size w W) i k (hi : i < l.length) (hk : k < l.length) => NeedsRule_calls v l (hrow.below hW) hl i k hi hk
  have HSm := hid1 fun W (hW : Below w.heap.size w W) j (hj : j < l.length) => cell_below' (hs j hj) hW
  obtain ⟨p, cap, rfl, -⟩ := hrow
  have hml : l.length ≤ maxLen := by unfold maxLen; omega
  have hby : i0.bytes * l.length ≤ 281474976710656 := by rw [hz2]; omega
  have zn : (l.length : Int) ≤ 1000 := by omega
  have n1 : World.ownsRow w w.heap.size 3 1 (.slice none 0 0) 0 (([] : List Nat).map nv) := World.ownsRow_nil _ _ _ _
  clear hs
  go_enter Tryz.func18, Tryz.ntmps18
  go_wp2_with (at_make; refine wpList_make_full _ rfl _ _ 32 rfl w.heap.size 4 i0 (.bool false) 1 Tryz.underlying32 hi hz0 hz1 .i64 .i64 _ _ l.length rfl rfl (by omega) (by omega) hby hml (Nat.le_refl _) ?_; intro w1 hown hgrow; have O1 := made_row hown)
  have B1 : Below w.heap.size w w1 := below_grown (Below.refl _ w) (Nat.le_refl _) hgrow
  have N1 : World.ownsRow w1 w.heap.size 3 1 (.slice none 0 0) 0 (([] : List Nat).map nv) := World.ownsRow_nil _ _ _ _
  have O2 : Own w1 w.heap.size w.heap.size l.length (Ru.isIn []) := by
    have e : Ru.isIn [] = fun _ => false := by funext j; simp [Ru.isIn]
    rw [e]
    exact O1
  clear hown hgrow O1 n1
  go_loopw [6] (fun out wr => ∃ o : List Nat, wr.ownsRow w.heap.size 3 1 out o.length (o.map nv) ∧ Own wr w.heap.size w.heap.size l.length (Ru.isIn o) ∧ o.Nodup ∧ (∀ i ∈ o, i < l.length) ∧ Ru.orderF l sm (l.length + 1 - o.length) o = Ru.order l sm ∧ Below w.heap.size w wr) (fun out _ => l.length + 1 - slen out)
  case atStart => exact ⟨[], N1, O2, List.nodup_nil, by simp, rfl, B1⟩
  case round =>
    obtain ⟨o, hout, O, hnd, hlt, hord, B⟩ := hrel
    have HOut := hid1 hout
    have HO := hid1 O
    have Hnd := hid1 hnd
    have Hlt := hid1 hlt
    have Hord := hid1 hord
    clear N1 O2 B1 hout O hnd hlt hord
    have hlen := len_le Hnd.out Hlt.out
    generalize wr = w2 at *
    have HCd : Hid (∀ W q, W = w2.drewN q → ∀ j, j < l.length → W.cell? ⟨w.heap.size, j, none⟩ = some (.bool (Ru.isIn o j))) := hid1 fun W q e j hj => by
      subst e
      exact HO.out.cell hj
    go_wp2
    go_loopw [8, 9, 10] (fun nx lf i wx => ∃ k q : Nat, k ≤ l.length ∧ i = .int .i64 k ∧ lf = .bool (Ru.leftTo sm (Ru.isIn o) k) ∧ nx = nxV (Ru.nextTo l sm (Ru.isIn o) k) ∧ wx = w2.drewN q) (fun _ _ i _ => l.length - (intOf i).toNat)
    case atStart => exact ⟨0, 0, Nat.zero_le _, rfl, rfl, rfl, rfl⟩
    case round =>
      obtain ⟨k, q, hk, rfl, rfl, rfl, rfl⟩ := hrel
      have c0 : (0 : Int) ≤ (k : Int) := by omega
      by_cases hkl : k < l.length
      · have c1 : (k : Int) < (l.length : Int) := by omega
        have hdk := HCd.out _ q rfl k hkl
        have hsk := HSm.out (w2.drewN q) (below_draws B q) k hkl
        have HL := hid1 (Ru.leftTo_succ sm (Ru.isIn o) k)
        have HN := hid1 (Ru.nextTo_succ l sm (Ru.isIn o) k)
        have HM : Hid (Ru.may l sm (Ru.isIn o) k = (sm k && !Ru.isIn o k && Ru.freeTo l (Ru.isIn o) k l.length)) := hid1 rfl
        cases hd : Ru.isIn o k with
        | true =>
          rw [hd] at hdk HL HM
          have HL2 : Hid (Ru.leftTo sm (Ru.isIn o) (k + 1) = Ru.leftTo sm (Ru.isIn o) k) := hid1 (by rw [HL.out]; simp)
          have HN2 : Hid (Ru.nextTo l sm (Ru.isIn o) (k + 1) = Ru.nextTo l sm (Ru.isIn o) k) := hid1 (by rw [HN.out, HM.out]; simp)
          clear HL HN HM hd hsk
          go_wp2
          exact ⟨⟨k + 1, q, by omega, by go_num, by rw [HL2.out], by rw [HN2.out], rfl⟩, by simp [intOf]; omega⟩
        | false =>
          rw [hd] at hdk HL HM
          cases hsm : sm k with
          | false =>
            rw [hsm] at hsk HL HM
            have HL2 : Hid (Ru.leftTo sm (Ru.isIn o) (k + 1) = Ru.leftTo sm (Ru.isIn o) k) := hid1 (by rw [HL.out]; simp)
            have HN2 : Hid (Ru.nextTo l sm (Ru.isIn o) (k + 1) = Ru.nextTo l sm (Ru.isIn o) k) := hid1 (by rw [HN.out, HM.out]; simp)
            clear HL HN HM hd hsm
            go_wp2
            exact ⟨⟨k + 1, q, by omega, by go_num, by rw [HL2.out], by rw [HN2.out], rfl⟩, by simp [intOf]; omega⟩
          | true =>
            rw [hsm] at hsk HL HM
            have HL2 : Hid (Ru.leftTo sm (Ru.isIn o) (k + 1) = true) := hid1 (by rw [HL.out]; simp)
            clear HL hd hsm
            generalize hnx : Ru.nextTo l sm (Ru.isIn o) k = nx at *
            clear hnx
            go_wp2
            go_loopw [11, 12] (fun fr kk wy => ∃ m q' : Nat, m ≤ l.length ∧ kk = .int .i64 m ∧ fr = .bool (Ru.freeTo l (Ru.isIn o) k m) ∧ wy = w2.drewN q') (fun _ kk _ => l.length - (intOf kk).toNat)
            case atStart => exact ⟨0, q, Nat.zero_le _, rfl, rfl, rfl⟩
            case round =>
              clear hdk hsk
              obtain ⟨m, q', hm, rfl, rfl, rfl⟩ := hrel
              have m0 : (0 : Int) ≤ (m : Int) := by omega
              by_cases hml2 : m < l.length
              · have m1 : (m : Int) < (l.length : Int) := by omega
                have hdm := HCd.out _ q' rfl m hml2
                have HF := hid1 (Ru.freeTo_succ l (Ru.isIn o) k m)
                cases hdd : Ru.isIn o m with
                | true =>
                  rw [hdd] at hdm HF
                  have HF2 : Hid (Ru.freeTo l (Ru.isIn o) k (m + 1) = Ru.freeTo l (Ru.isIn o) k m) := hid1 (by rw [HF.out]; simp)
                  clear HF hdd
                  go_wp2
                  exact ⟨⟨m + 1, q', by omega, by go_num, by rw [HF2.out], rfl⟩, by simp [intOf]; omega⟩
                | false =>
                  rw [hdd] at hdm HF
                  have HC := HNeed.out _ (below_draws B q') k m hkl hml2
                  cases hnd : Ru.needs l k m with
                  | true =>
                    rw [hnd] at HC HF
                    have HF2 : Hid (Ru.freeTo l (Ru.isIn o) k (m + 1) = false) := hid1 (by rw [HF.out]; simp)
                    clear HF hdd hnd
                    go_wp2_with fail
                    refine Calls.mono HC ?_
                    rintro e w3 ⟨rfl, q3, rfl⟩
                    clear HC
                    go_wp2
                    exact ⟨⟨m + 1, q' + q3, by omega, by go_num, by rw [HF2.out], by simp [World.drewN]⟩, by simp [intOf]; omega⟩
                  | false =>
                    rw [hnd] at HC HF
                    have HF2 : Hid (Ru.freeTo l (Ru.isIn o) k (m + 1) = Ru.freeTo l (Ru.isIn o) k m) := hid1 (by rw [HF.out]; simp)
                    clear HF hdd hnd
                    go_wp2_with fail
                    refine Calls.mono HC ?_
                    rintro e w3 ⟨rfl, q3, rfl⟩
                    clear HC
                    go_wp2
                    exact ⟨⟨m + 1, q' + q3, by omega, by go_num, by rw [HF2.out], by simp [World.drewN]⟩, by simp [intOf]; omega⟩
              · have m1 : (l.length : Int) ≤ (m : Int) := by omega
                obtain rfl : m = l.length := by omega
                simp only [Bool.not_false, Bool.and_true, Bool.true_and] at HM
                rw [HM.out] at HN
                generalize Ru.freeTo l (Ru.isIn o) k l.length = fr at *
                clear HM
                cases fr with
                | true =>
                  cases nx with
                  | none =>
                    have HN2 : Hid (Ru.nextTo l sm (Ru.isIn o) (k + 1) = some k) := hid1 (by rw [HN.out]; rfl)
                    clear HN
                    simp only [nxV]
                    go_wp2
                    exact ⟨⟨k + 1, q', by omega, by go_num, by rw [HL2.out], by rw [HN2.out]; rfl, rfl⟩, by simp [intOf]; omega⟩
                  | some j =>
                    have HN2 : Hid (Ru.nextTo l sm (Ru.isIn o) (k + 1) = some j) := hid1 (by rw [HN.out]; rfl)
                    have j0 : (0 : Int) ≤ (j : Int) := by omega
                    clear HN
                    simp only [nxV]
                    go_wp2
                    exact ⟨⟨k + 1, q', by omega, by go_num, by rw [HL2.out], by rw [HN2.out]; rfl, rfl⟩, by simp [intOf]; omega⟩
                | false =>
                  have HN2 : Hid (Ru.nextTo l sm (Ru.isIn o) (k + 1) = nx) := hid1 (by rw [HN.out]; cases nx <;> rfl)
                  clear HN
                  go_wp2
                  exact ⟨⟨k + 1, q', by omega, by go_num, by rw [HL2.out], by rw [HN2.out], rfl⟩, by simp [intOf]; omega⟩
      · have c1 : (l.length : Int) ≤ (k : Int) := by omega
        obtain rfl : k = l.length := by omega
        have HStep : Hid (Ru.orderF l sm (l.length + 1 - o.length) o = if Ru.leftTo sm (Ru.isIn o) l.length = true then (match Ru.nextTo l sm (Ru.isIn o) l.length with | none => none | some i => Ru.orderF l sm (l.length - o.length) (o ++ [i])) else some o) := hid1 (by
          rw [show l.length + 1 - o.length = (l.length - o.length) + 1 by omega]
          rfl)
        have HNx := hid1 fun i => Ru.nextTo_some (l := l) (some := sm) (done := Ru.isIn o) (m := l.length) (i := i)
        cases hlf : Ru.leftTo sm (Ru.isIn o) l.length with
        | false =>
          have HR : Hid (Ru.order l sm = some o) := hid1 (by rw [← Hord.out, HStep.out, hlf]; rfl)
          have hN : NRow (w2.drewN q) u6 o := NRow.of_owns (w := w2.drewN q) HOut.out
          clear HStep HNx hlf
          go_wp2
          go_ret2
          exact ⟨_, true, rfl, below_draws B q, .inr ⟨o, rfl, HR.out, hN, Hnd.out, Hlt.out⟩⟩
        | true =>
          cases hnx : Ru.nextTo l sm (Ru.isIn o) l.length with
          | none =>
            have HR : Hid (Ru.order l sm = none) := hid1 (by rw [← Hord.out, HStep.out, hlf, hnx]; rfl)
            clear HStep HNx hlf hnx
            simp only [nxV]
            go_wp2
            go_ret2
            exact ⟨_, false, rfl, below_draws B q, .inl ⟨rfl, rfl, HR.out⟩⟩
          | some j =>
            obtain ⟨hjl, hjm⟩ := HNx.out j hnx
            have HR : Hid (Ru.orderF l sm (l.length - o.length) (o ++ [j]) = Ru.order l sm) := hid1 (by rw [← Hord.out, HStep.out, hlf, hnx]; rfl)
            have hjo : j ∉ o := by
              intro hm
              simp [Ru.may, Ru.isIn, hm] at hjm
            have hnd' : (o ++ [j]).Nodup := by
              rw [List.nodup_append]
              exact ⟨Hnd.out, by simp, fun a ha b hb => by
                rw [List.mem_singleton.1 hb]
                rintro rfl
                exact hjo ha⟩
            have hlt' : ∀ i ∈ o ++ [j], i < l.length := fun i hi => by
              rcases List.mem_append.1 hi with h | h
              · exact Hlt.out i h
              · rw [List.mem_singleton.1 h]; exact hjl
            have Hnd2 := hid1 hnd'
            have Hlt2 := hid1 hlt'
            have hlen2 := len_le hnd' hlt'
            rw [List.length_append, List.length_singleton] at hlen2
            have O3 : Own (w2.drewN q) w.heap.size w.heap.size l.length (Ru.isIn o) := HO.out
            have R3 : (w2.drewN q).ownsRow w.heap.size 3 1 u6 o.length (o.map nv) := HOut.out
            have hcj := O3.cell hjl
            have hfj := World.ownsRow.frozenAt O3 j
            have O4 : Own ((w2.drewN q).setCell ⟨w.heap.size, j, none⟩ (.bool true)) w.heap.size w.heap.size l.length (Ru.isIn (o ++ [j])) := O3.set j true fun i _ => isIn_snoc o j i
            have R4 : ((w2.drewN q).setCell ⟨w.heap.size, j, none⟩ (.bool true)).ownsRow w.heap.size 3 1 u6 o.length (o.map nv) := ownsRow_setCell_other R3 (by
              have := owns_far R3 O3 (by decide)
              simpa using this) (.bool true)
            have B4 := (below_draws B q).setCell (p := ⟨w.heap.size, j, none⟩) (Nat.le_refl _) (.bool true)
            have hs4 := owns_slen R4
            have hml3 : o.length + 1 ≤ maxLen := by unfold maxLen; omega
            have hbz : w.heap.size ≤ ((w2.drewN q).setCell ⟨w.heap.size, j, none⟩ (.bool true)).heap.size := B4.size
            have hbz2 : w.heap.size ≤ w2.heap.size := B.size
            have j0 : (0 : Int) ≤ (j : Int) := by omega
            have j1 : (j : Int) < (l.length : Int) := by omega
            clear HStep HNx hlf hnx O3 R3 hnd' hlt' hjo hjm
            simp only [nxV]
            go_wp2_with (at_builtin; refine wpList_append_own _ rfl _ _ 25 rfl w.heap.size 3 i1 (.int .i64 0) 1 8 Tryz.underlying25 hI hI0 hI1 hI2 rfl (by decide) _ _ _ rfl (R4.alloc _) ⟨w2.heap.size, 0, none⟩ 1 1 [nv j] rfl rfl (one_new _ _ _ _ (by simp)) (by simp [Value.oneCell']) hml3 (by omega) (by simp; omega) ?_; intro v' w4 hown' hgrow _)
            have hs5 := owns_slen hown'
            refine ⟨⟨o ++ [j], by simpa using hown', ?_, Hnd2.out, Hlt2.out, ?_, below_appended B4 hbz R4 hgrow⟩, by rw [hs5, hs4]; omega⟩
            · exact owns_other (World.ownsRow.alloc O4 _) (R4.alloc _) (by decide) hgrow
            · rw [List.length_append, List.length_singleton, show l.length + 1 - (o.length + 1) = l.length - o.length by omega]
              exact HR.out
end Go.Proofs.YtmeplgihnlpjcaaGreatDoor
/- Which rules are needed: as data. -/
namespace Go.Proofs.YtmeplgihnlpjcaaGreatDoor
open Go.RowKit Go.Shelf Go.Lib

namespace Ru
/-- Is a rule's Out one of these? -/
def base (l : List Ru) (outs : List (List UInt8)) (k : Nat) : Bool :=
  match l[k]? with
  | some r => decide (r.out ∈ outs)
  | none => false
theorem base_eq {l : List Ru} {outs : List (List UInt8)} {k : Nat} (h : k < l.length) : base l outs k = decide (l[k].out ∈ outs) := by
  unfold base
  rw [List.getElem?_eq_getElem h]
/-- All that is true of the rules that make these, and of what a rule needs of which it is true, is true of those that are needed: and these are. -/
structure Needed (l : List Ru) (outs : List (List UInt8)) (f : Nat → Bool) : Prop where
  start : ∀ k, base l outs k = true → f k = true
  closed : ∀ i k, f i = true → needs l i k = true → f k = true
  least : ∀ P : Nat → Prop, (∀ k, base l outs k = true → P k) → (∀ i k, P i → needs l i k = true → P k) → ∀ k, k < l.length → f k = true → P k
theorem Needed.unique {l : List Ru} {outs : List (List UInt8)} {f g : Nat → Bool} (hf : Needed l outs f) (hg : Needed l outs g) (k : Nat) (hk : k < l.length) : f k = g k := by
  rw [Bool.eq_iff_iff]
  exact ⟨hf.least (fun k => g k = true) hg.start hg.closed k hk, hg.least (fun k => f k = true) hf.start hf.closed k hk⟩

/-- How many of the first n. -/
def cnt (f : Nat → Bool) : Nat → Nat
  | 0 => 0
  | n + 1 => cnt f n + (if f n = true then 1 else 0)
theorem cnt_le (f : Nat → Bool) : ∀ n, cnt f n ≤ n
  | 0 => Nat.le_refl _
  | n + 1 => by
    have := cnt_le f n
    unfold cnt
    split <;> omega
theorem cnt_mono {f g : Nat → Bool} : ∀ {n : Nat}, (∀ k, k < n → f k = true → g k = true) → cnt f n ≤ cnt g n
  | 0, _ => Nat.le_refl _
  | n + 1, h => by
    have ih := cnt_mono (n := n) fun k hk => h k (by omega)
    unfold cnt
    by_cases hf : f n = true
    · rw [if_pos hf, if_pos (h n (by omega) hf)]; omega
    · rw [if_neg hf]
      split <;> omega
theorem cnt_lt {f g : Nat → Bool} {m : Nat} : ∀ {n : Nat}, (∀ k, k < n → f k = true → g k = true) → m < n → g m = true → f m = false → cnt f n + 1 ≤ cnt g n
  | 0, _, hm, _, _ => by omega
  | n + 1, h, hm, hg, hf => by
    unfold cnt
    by_cases e : m = n
    · subst e
      have := cnt_mono (n := m) fun k hk => h k (by omega)
      rw [if_pos hg, if_neg (by rw [hf]; simp)]
      omega
    · have ih := cnt_lt (n := n) (fun k hk => h k (by omega)) (by omega) hg hf
      by_cases hf' : f n = true
      · rw [if_pos hf', if_pos (h n (by omega) hf')]; omega
      · rw [if_neg hf']
        split <;> omega
theorem cnt_full {f : Nat → Bool} : ∀ {n : Nat}, n ≤ cnt f n → ∀ k, k < n → f k = true
  | 0, _, k, hk => by omega
  | n + 1, h, k, hk => by
    have h1 := cnt_le f n
    unfold cnt at h
    split at h
    · rename_i hf
      by_cases e : k = n
      · rw [e]; exact hf
      · exact cnt_full (n := n) (by omega) k (by omega)
    · omega

/-- What holds ahead of a pass. -/
structure Pass (l : List Ru) (outs : List (List UInt8)) (t : Nat) (f : Nat → Bool) : Prop where
  start : ∀ k, k < l.length → base l outs k = true → f k = true
  sound : ∀ P : Nat → Prop, (∀ k, base l outs k = true → P k) → (∀ i k, P i → needs l i k = true → P k) → ∀ k, k < l.length → f k = true → P k
  more : (∀ i k, i < l.length → f i = true → needs l i k = true → f k = true) ∨ t ≤ cnt f l.length
theorem base_lt {l : List Ru} {outs : List (List UInt8)} {k : Nat} (h : base l outs k = true) : k < l.length := by
  unfold base at h
  split at h
  · rename_i r hr
    exact (List.getElem?_eq_some_iff.1 hr).1
  · cases h
theorem Pass.first (l : List Ru) (outs : List (List UInt8)) : Pass l outs 0 (base l outs) :=
  ⟨fun _ _ h => h, fun _ h _ k _ hk => h k hk, .inr (Nat.zero_le _)⟩
theorem Pass.next {l : List Ru} {outs : List (List UInt8)} {t : Nat} {S f : Nat → Bool} (h : Pass l outs t S) (hS : ∀ k, k < l.length → S k = true → f k = true)
    (hsound : ∀ P : Nat → Prop, (∀ k, base l outs k = true → P k) → (∀ i k, P i → needs l i k = true → P k) → ∀ k, k < l.length → f k = true → P k)
    (hstep : ∀ i k, i < l.length → S i = true → needs l i k = true → f k = true) : Pass l outs (t + 1) f := by
  refine ⟨fun k hk hb => hS k hk (h.start k hk hb), hsound, ?_⟩
  by_cases hc : ∀ i k, i < l.length → S i = true → needs l i k = true → S k = true
  · left
    have hfS : ∀ k, k < l.length → f k = true → S k = true := fun k hk hf =>
      hsound (fun k => S k = true) (fun k hb => h.start k (base_lt hb) hb) (fun i k hi hn => hc i k (needs_lt hn).1 hi hn) k hk hf
    exact fun i k hi hf hn => hS k (needs_lt hn).2 (hc i k hi (hfS i hi hf) hn)
  · right
    have ht := h.more.resolve_left hc
    simp only [Classical.not_forall] at hc
    obtain ⟨i, k, hi, hSi, hn, hSk⟩ := hc
    have := cnt_lt hS (needs_lt hn).2 (hstep i k hi hSi hn) (by simpa using hSk)
    omega
theorem Pass.done {l : List Ru} {outs : List (List UInt8)} {f : Nat → Bool} (h : Pass l outs l.length f) : Needed l outs (fun k => decide (k < l.length) && f k) := by
  have hc : ∀ i k, i < l.length → f i = true → needs l i k = true → f k = true := by
    rcases h.more with h1 | h1
    · exact h1
    · exact fun i k _ _ hn => cnt_full h1 k (needs_lt hn).2
  refine ⟨fun k hb => ?_, fun i k hf hn => ?_, fun P h1 h2 k hk hf => ?_⟩
  · have := base_lt hb
    simp [this, h.start k this hb]
  · simp only [Bool.and_eq_true, decide_eq_true_eq] at hf ⊢
    exact ⟨(needs_lt hn).2, hc i k hf.1 hf.2 hn⟩
  · simp only [Bool.and_eq_true, decide_eq_true_eq] at hf
    exact h.sound P h1 h2 k hk hf.2
end Ru
end Go.Proofs.YtmeplgihnlpjcaaGreatDoor
/- The document's answer's NeededOf: the walk. -/
namespace Go.Proofs.YtmeplgihnlpjcaaGreatDoor
open Go.RowKit Go.Shelf Go.Lib

theorem Own.congr {W : World} {B g n : Nat} {f f' : Nat → Bool} (h : Own W B g n f) (hf : ∀ j, j < n → f j = f' j) : Own W B g n f' := by
  unfold Own at h ⊢
  rw [← rowB_congr hf]
  exact h

theorem base_snoc (l : List Ru) (outs : List (List UInt8)) (i : Nat) (hi : i < outs.length) (k : Nat) : Ru.base l (outs.take (i + 1)) k = (Ru.base l (outs.take i) k || Ru.base l [outs[i]] k) := by
  unfold Ru.base
  split
  · rw [Bool.eq_iff_iff, List.take_succ_eq_append_getElem hi]
    simp only [decide_eq_true_eq, Bool.or_eq_true, List.mem_append]
  · rfl

set_option maxRecDepth 100000 in
set_option maxHeartbeats 16000000 in
theorem NeededOf_calls {w : World} (v : Value) (l : List Ru) (hrow : RRow w v l) (hn : l.length ≤ 1000) (hl : ∀ x ∈ l, x.ins.length ≤ 1000000) (vo : Value) (outs : List (List UInt8)) (hro : IRow w vo outs) (hno : outs.length ≤ 1000) :
    Calls Tryz.prog 25 #[v, vo] w fun e w' => ∃ u r, e = .returned (.tuple #[u, .int .i64 r]) ∧ Below w.heap.size w w' ∧
      ((∃ k : Nat, r = k ∧ ∃ hk : k < outs.length, (∀ x ∈ l, x.out ≠ outs[k]) ∧ (∀ j (hj : j < outs.length), j < k → ∃ x ∈ l, x.out = outs[j]) ∧ u = .slice none 0 0) ∨
       (r = -1 ∧ (∀ j (hj : j < outs.length), ∃ x ∈ l, x.out = outs[j]) ∧ ∃ g f, u = .slice (some ⟨g, 0, none⟩) l.length l.length ∧ Own w' w.heap.size g l.length f ∧ Ru.Needed l outs f)) := by
  obtain ⟨i0, hi, hz0, hz1, hz2⟩ := info_parts Tryz.infoBool
  have HNeed := hid1 fun W (hW : Below w.heap.size w W) i k (hi : i < l.length) (hk : k < l.length) => NeedsRule_calls v l (hrow.below hW) hl i k hi hk
  obtain ⟨p, cap, rfl, hcap, hnn, hin⟩ := hrow
  have HI := hid1 hin
  obtain ⟨po, co, rfl, hino⟩ := hro
  have HIo := hid1 hino
  have hml : l.length ≤ maxLen := by unfold maxLen; omega
  have hby : i0.bytes * l.length ≤ 281474976710656 := by rw [hz2]; omega
  have zn : (l.length : Int) ≤ 1000 := by omega
  have zo : (outs.length : Int) ≤ 1000 := by omega
  clear hin hnn hino
  go_enter Tryz.func25, Tryz.ntmps25
  go_wp2_with (at_make; refine wpList_make_full _ rfl _ _ 32 rfl w.heap.size 4 i0 (.bool false) 1 Tryz.underlying32 hi hz0 hz1 .i64 .i64 _ _ l.length rfl rfl (by omega) (by omega) hby hml (Nat.le_refl _) ?_; intro w1 hown hgrow; have O1 := made_row hown)
  have B1 : Below w.heap.size w w1 := below_grown (Below.refl _ w) (Nat.le_refl _) hgrow
  have O2 : Own w1 w.heap.size w.heap.size l.length (Ru.base l (outs.take 0)) := O1.congr fun j hj => by
    rw [Ru.base_eq hj]
    simp
  clear hown hgrow O1
  go_loopw [7] (fun iv wr => ∃ i : Nat, i ≤ outs.length ∧ iv = .int .i64 i ∧ Own wr w.heap.size w.heap.size l.length (Ru.base l (outs.take i)) ∧ (∀ j (hj : j < outs.length), j < i → ∃ x ∈ l, x.out = outs[j]) ∧ Below w.heap.size w wr) (fun iv _ => outs.length - (intOf iv).toNat)
  case atStart => exact ⟨0, Nat.zero_le _, rfl, O2, fun j _ h => by omega, B1⟩
  case round =>
    obtain ⟨i, hil, rfl, O, hm, B⟩ := hrel
    have HO := hid1 O
    have HM := hid1 hm
    clear O2 B1 O hm
    have c0 : (0 : Int) ≤ (i : Int) := by omega
    by_cases hlt : i < outs.length
    · have c1 : (i : Int) < (outs.length : Int) := by omega
      obtain ⟨go, oo, rfl, hgo, hco⟩ := HIo.out (by intro e; rw [e] at hlt; simp at hlt)
      have HGo := hid1 fun W (hW : Below w.heap.size w W) => (hW.cell (p := ⟨go, oo + i, none⟩) hgo).trans (hco i hlt)
      clear hco HIo
      have HMade : Hid ((∃ x ∈ l, x.out = outs[i]) → ∀ j (hj : j < outs.length), j < i + 1 → ∃ x ∈ l, x.out = outs[j]) := hid1 fun h j hj hji => by
        rcases Nat.lt_or_ge j i with h' | h'
        · exact HM.out j hj h'
        · obtain rfl : j = i := by omega
          exact h
      have HB := hid1 (base_snoc l outs i hlt)
      have HNone : Hid ((∀ x ∈ l, x.out ≠ outs[i]) → ∃ k : Nat, (i : Int) = k ∧ ∃ hk : k < outs.length, (∀ x ∈ l, x.out ≠ outs[k]) ∧ (∀ j (hj : j < outs.length), j < k → ∃ x ∈ l, x.out = outs[j]) ∧ (Value.slice none 0 0) = Value.slice none 0 0) := hid1 fun h => ⟨i, rfl, hlt, h, HM.out, rfl⟩
      generalize wr = w2 at *
      generalize hy : outs[i] = y at *
      clear hy
      go_wp2
      go_loopw [8, 9] (fun fd kv wx => ∃ k : Nat, k ≤ l.length ∧ kv = .int .i64 k ∧ fd = .bool ((l.take k).any fun x => x.out == y) ∧ Own wx w.heap.size w.heap.size l.length (fun j => Ru.base l (outs.take i) j || (decide (j < k) && Ru.base l [y] j)) ∧ Below w.heap.size w wx) (fun _ kv _ => l.length - (intOf kv).toNat)
      case atStart => exact ⟨0, Nat.zero_le _, rfl, by simp, HO.out.congr fun j hj => by simp, B⟩
      case round =>
        obtain ⟨k, hk, rfl, rfl, O, B'⟩ := hrel
        have k0 : (0 : Int) ≤ (k : Int) := by omega
        by_cases hkl : k < l.length
        · have k1 : (k : Int) < (l.length : Int) := by omega
          obtain ⟨g', o, rfl, hg, hcur⟩ := HI.out (by intro e; rw [e] at hkl; simp at hkl)
          have d0 := cell_below' (hcur k hkl).1 B'
          have d1 := HGo.out wr B'
          have hfk := World.ownsRow.frozenAt O k
          have hck := O.cell hkl
          have HA : Hid (((l.take (k + 1)).any fun x => x.out == y) = (((l.take k).any fun x => x.out == y) || (l[k].out == y))) := hid1 (by rw [List.take_succ_eq_append_getElem hkl, List.any_append]; simp)
          have HBk : Hid (Ru.base l [y] k = (l[k].out == y)) := hid1 (by
            rw [Ru.base_eq hkl, Bool.eq_iff_iff]
            simp)
          clear hcur HI
          generalize l[k] = x at *
          have w3 : Own wr.drew w.heap.size w.heap.size l.length (fun j => Ru.base l (outs.take i) j || (decide (j < k) && Ru.base l [y] j)) := O
          cases hb : x.out == y with
          | true =>
            have O3 : Own (wr.drew.setCell ⟨w.heap.size, k, none⟩ (.bool true)) w.heap.size w.heap.size l.length (fun j => Ru.base l (outs.take i) j || (decide (j < k + 1) && Ru.base l [y] j)) := w3.set k true fun j hj => by
              by_cases e : j = k
              · subst e
                rw [if_pos rfl, HBk.out, hb]
                simp
              · rw [if_neg e]
                congr 2
                rw [decide_eq_decide]
                omega
            have B3 := (below_draws B' 1).setCell (p := ⟨w.heap.size, k, none⟩) (Nat.le_refl _) (.bool true)
            rw [hb] at HA
            simp only [Bool.or_true] at HA
            clear O w3 HBk
            go_wp2
            go_region
            all_goals
              go_wp2
              exact ⟨⟨k + 1, by omega, by go_num, by rw [HA.out], O3, B3⟩, by simp [intOf]; omega⟩
          | false =>
            have O3 : Own wr.drew w.heap.size w.heap.size l.length (fun j => Ru.base l (outs.take i) j || (decide (j < k + 1) && Ru.base l [y] j)) := w3.congr fun j hj => by
              by_cases e : j = k
              · subst e
                rw [HBk.out, hb]
                simp
              · congr 2
                rw [decide_eq_decide]
                omega
            rw [hb] at HA
            simp only [Bool.or_false] at HA
            clear O w3 HBk
            go_wp2
            go_region
            all_goals
              go_wp2
              exact ⟨⟨k + 1, by omega, by go_num, by rw [HA.out], O3, below_draws B' 1⟩, by simp [intOf]; omega⟩
        · have k1 : (l.length : Int) ≤ (k : Int) := by omega
          obtain rfl : k = l.length := by omega
          have hany : (l.take l.length).any (fun x => x.out == y) = l.any (fun x => x.out == y) := by rw [List.take_length]
          rw [hany]
          have O3 : Own wr w.heap.size w.heap.size l.length (Ru.base l (outs.take (i + 1))) := O.congr fun j hj => by
            rw [HB.out]
            simp [hj]
          clear O hany
          cases hf : l.any (fun x => x.out == y) with
          | true =>
            have HX := hid1 (HMade.out (by
              obtain ⟨x, hx, e⟩ := List.any_eq_true.1 hf
              exact ⟨x, hx, by simpa using e⟩))
            clear HMade HNone hf
            go_wp2
            exact ⟨⟨i + 1, by omega, by go_num, O3, HX.out, B'⟩, by simp [intOf]; omega⟩
          | false =>
            have HX := hid1 (HNone.out (by
              intro x hx e
              rw [List.any_eq_false] at hf
              exact hf x hx (by simpa using e)))
            clear HMade HNone hf
            go_wp2
            go_ret2
            obtain ⟨kk, e1, hkk, e2, e3, _⟩ := HX.out
            exact ⟨_, _, rfl, B', .inl ⟨kk, e1, hkk, e2, e3, rfl⟩⟩
    · have c1 : (outs.length : Int) ≤ (i : Int) := by omega
      obtain rfl : i = outs.length := by omega
      have HAll : Hid (∀ j (hj : j < outs.length), ∃ x ∈ l, x.out = outs[j]) := hid1 fun j hj => HM.out j hj hj
      have O3 : Own wr w.heap.size w.heap.size l.length (Ru.base l outs) := by
        have := HO.out
        rwa [List.take_length] at this
      clear HO HM HIo
      have HP0 := hid1 (Ru.Pass.first l outs)
      generalize wr = w2 at *
      go_wp2
      go_loopw [10] (fun tv wx => ∃ (t : Nat) (f : Nat → Bool), t ≤ l.length ∧ tv = .int .i64 t ∧ Own wx w.heap.size w.heap.size l.length f ∧ Ru.Pass l outs t f ∧ Below w.heap.size w wx) (fun tv _ => l.length - (intOf tv).toNat)
      case atStart => exact ⟨0, _, Nat.zero_le _, rfl, O3, HP0.out, B⟩
      case round =>
        obtain ⟨t, S, htl, rfl, O, hP, B'⟩ := hrel
        have HP := hid1 hP
        have HS0 := hid1 O
        clear O3 HP0 O hP
        have t0 : (0 : Int) ≤ (t : Int) := by omega
        by_cases htlt : t < l.length
        · have t1 : (t : Int) < (l.length : Int) := by omega
          generalize wr = w3 at *
          go_wp2
          go_loopw [11] (fun iv wx => ∃ (i : Nat) (f : Nat → Bool), i ≤ l.length ∧ iv = .int .i64 i ∧ Own wx w.heap.size w.heap.size l.length f ∧ (∀ k, k < l.length → S k = true → f k = true) ∧ (∀ P : Nat → Prop, (∀ k, Ru.base l outs k = true → P k) → (∀ i k, P i → Ru.needs l i k = true → P k) → ∀ k, k < l.length → f k = true → P k) ∧ (∀ i' k, i' < i → S i' = true → Ru.needs l i' k = true → f k = true) ∧ Below w.heap.size w wx) (fun iv _ => l.length - (intOf iv).toNat)
          case atStart => exact ⟨0, S, Nat.zero_le _, rfl, HS0.out, fun _ _ h => h, HP.out.sound, fun i' _ h => by omega, B'⟩
          case round =>
            obtain ⟨i, f, hil, rfl, O, h1, h2, h3, B2⟩ := hrel
            have HO := hid1 O
            have H1 := hid1 h1
            have H2 := hid1 h2
            have H3 := hid1 h3
            clear O h1 h2 h3 HS0
            have i0' : (0 : Int) ≤ (i : Int) := by omega
            by_cases hilt : i < l.length
            · have i1 : (i : Int) < (l.length : Int) := by omega
              generalize wr = w4 at *
              go_wp2
              go_loopw [12] (fun kv wx => ∃ (k : Nat) (f : Nat → Bool), k ≤ l.length ∧ kv = .int .i64 k ∧ Own wx w.heap.size w.heap.size l.length f ∧ (∀ k, k < l.length → S k = true → f k = true) ∧ (∀ P : Nat → Prop, (∀ k, Ru.base l outs k = true → P k) → (∀ i k, P i → Ru.needs l i k = true → P k) → ∀ k, k < l.length → f k = true → P k) ∧ (∀ i' k, i' < i → S i' = true → Ru.needs l i' k = true → f k = true) ∧ (∀ k', k' < k → S i = true → Ru.needs l i k' = true → f k' = true) ∧ Below w.heap.size w wx) (fun kv _ => l.length - (intOf kv).toNat)
              case atStart => exact ⟨0, f, Nat.zero_le _, rfl, HO.out, H1.out, H2.out, H3.out, fun k' h => by omega, B2⟩
              case round =>
                clear HO H1 H2 H3 f
                obtain ⟨k, f, hk, rfl, O, h1, h2, h3, h4, B3⟩ := hrel
                have H1 := hid1 h1
                have H2 := hid1 h2
                have H3 := hid1 h3
                have H4 := hid1 h4
                clear h1 h2 h3 h4
                have k0 : (0 : Int) ≤ (k : Int) := by omega
                by_cases hkl : k < l.length
                · have k1 : (k : Int) < (l.length : Int) := by omega
                  have hci := O.cell hilt
                  have HC := HNeed.out wr B3 i k hilt hkl
                  cases hfi : f i with
                  | true =>
                    rw [hfi] at hci
                    cases hnd : Ru.needs l i k with
                    | true =>
                      rw [hnd] at HC
                      have K1 : Hid (∀ j, j < l.length → S j = true → (if j = k then true else f j) = true) := hid1 fun j hj hs => by
                        split
                        · rfl
                        · exact H1.out j hj hs
                      have K2 : Hid (∀ P : Nat → Prop, (∀ k, Ru.base l outs k = true → P k) → (∀ i k, P i → Ru.needs l i k = true → P k) → ∀ j, j < l.length → (if j = k then true else f j) = true → P j) := hid1 fun P p1 p2 j hj hf => by
                        by_cases e : j = k
                        · rw [e]
                          exact p2 i k (H2.out P p1 p2 i hilt hfi) hnd
                        · rw [if_neg e] at hf
                          exact H2.out P p1 p2 j hj hf
                      have K3 : Hid (∀ i' j, i' < i → S i' = true → Ru.needs l i' j = true → (if j = k then true else f j) = true) := hid1 fun i' j a b c => by
                        split
                        · rfl
                        · exact H3.out i' j a b c
                      have K4 : Hid (∀ j, j < k + 1 → S i = true → Ru.needs l i j = true → (if j = k then true else f j) = true) := hid1 fun j a b c => by
                        split
                        · rfl
                        · exact H4.out j (by omega) b c
                      clear H1 H2 H3 H4 hnd
                      go_wp2_with fail
                      refine Calls.mono HC ?_
                      rintro e w5 ⟨rfl, q, rfl⟩
                      have O5 : Own (wr.drewN q) w.heap.size w.heap.size l.length f := O
                      have hck := O5.cell hkl
                      have hfk := World.ownsRow.frozenAt O5 k
                      have O6 := O5.set (f' := fun j => if j = k then true else f j) k true fun j _ => rfl
                      have B6 := (below_draws B3 q).setCell (p := ⟨w.heap.size, k, none⟩) (Nat.le_refl _) (.bool true)
                      clear HC O O5 hci
                      go_wp2
                      exact ⟨⟨k + 1, _, by omega, by go_num, O6, K1.out, K2.out, K3.out, K4.out, B6⟩, by simp [intOf]; omega⟩
                    | false =>
                      rw [hnd] at HC
                      have K4 : Hid (∀ j, j < k + 1 → S i = true → Ru.needs l i j = true → f j = true) := hid1 fun j a b c => by
                        by_cases e : j = k
                        · rw [e, hnd] at c
                          cases c
                        · exact H4.out j (by omega) b c
                      clear H4 hnd
                      go_wp2_with fail
                      refine Calls.mono HC ?_
                      rintro e w5 ⟨rfl, q, rfl⟩
                      have O5 : Own (wr.drewN q) w.heap.size w.heap.size l.length f := O
                      clear HC O hci
                      go_wp2
                      exact ⟨⟨k + 1, f, by omega, by go_num, O5, H1.out, H2.out, H3.out, K4.out, below_draws B3 q⟩, by simp [intOf]; omega⟩
                  | false =>
                    rw [hfi] at hci
                    have K4 : Hid (∀ j, j < k + 1 → S i = true → Ru.needs l i j = true → f j = true) := hid1 fun j _ b _ => by
                      rw [H1.out i hilt b] at hfi
                      cases hfi
                    clear H4 HC hfi
                    go_wp2
                    exact ⟨⟨k + 1, f, by omega, by go_num, O, H1.out, H2.out, H3.out, K4.out, B3⟩, by simp [intOf]; omega⟩
                · have k1 : (l.length : Int) ≤ (k : Int) := by omega
                  have K3 : Hid (∀ i' j, i' < i + 1 → S i' = true → Ru.needs l i' j = true → f j = true) := hid1 fun i' j a b c => by
                    by_cases e : i' = i
                    · subst e
                      exact H4.out j (by have := (Ru.needs_lt c).2; omega) b c
                    · exact H3.out i' j (by omega) b c
                  clear H3 H4
                  go_wp2
                  exact ⟨⟨i + 1, f, by omega, by go_num, O, H1.out, H2.out, K3.out, B3⟩, by simp [intOf]; omega⟩
            · have i1 : (l.length : Int) ≤ (i : Int) := by omega
              have KP := hid1 (HP.out.next H1.out H2.out fun i' j a b c => H3.out i' j (by omega) b c)
              clear H1 H2 H3 HP
              go_wp2
              exact ⟨⟨t + 1, f, by omega, by go_num, HO.out, KP.out, B2⟩, by simp [intOf]; omega⟩
        · have t1 : (l.length : Int) ≤ (t : Int) := by omega
          obtain rfl : t = l.length := by omega
          have KN := hid1 HP.out.done
          have O6 : Own wr w.heap.size w.heap.size l.length (fun k => decide (k < l.length) && S k) := HS0.out.congr fun j hj => by simp [hj]
          clear HP HS0
          go_wp2
          go_ret2
          exact ⟨_, _, rfl, B', .inr ⟨rfl, HAll.out, _, _, rfl, O6, KN.out⟩⟩
end Go.Proofs.YtmeplgihnlpjcaaGreatDoor
/- A table of numbers, row by row. -/
namespace Go.Proofs.YtmeplgihnlpjcaaGreatDoor
open Go.RowKit Go.Shelf Go.Lib

def rowN (n : Nat) (f : Nat → Nat) : List Value := (List.range n).map (fun j => nv (f j))
theorem rowN_get {n : Nat} (f : Nat → Nat) {j : Nat} (h : j < n) : (rowN n f)[j]? = some (nv (f j)) := by simp [rowN, h]
theorem rowN_congr {n : Nat} {f g : Nat → Nat} (h : ∀ j, j < n → f j = g j) : rowN n f = rowN n g := by
  unfold rowN
  exact List.map_congr_left fun j hj => by rw [h j (List.mem_range.1 hj)]
theorem rowN_set (n : Nat) (f : Nat → Nat) (k b : Nat) : (rowN n f).set k (nv b) = rowN n (fun j => if j = k then b else f j) := by
  apply List.ext_getElem?
  intro j
  unfold rowN
  rw [List.getElem?_set]
  by_cases hj : j < n
  · by_cases e : k = j
    · subst e; simp [hj]
    · have e' : ¬ j = k := fun h => e h.symm
      simp [hj, e, e']
  · by_cases e : k = j
    · subst e; simp [hj]
    · simp [hj, e]
/-- A row of numbers that the call made. -/
def OwnN (W : World) (B g n : Nat) (f : Nat → Nat) : Prop := W.ownsRow B 3 1 (.slice (some ⟨g, 0, none⟩) n n) n (rowN n f)
theorem OwnN.cell {W : World} {B g n : Nat} {f : Nat → Nat} (h : OwnN W B g n f) {j : Nat} (hj : j < n) : W.cell? ⟨g, j, none⟩ = some (nv (f j)) := by
  have := World.ownsRow.cellAt h j (by omega)
  rw [this, rowN_get f hj]
theorem OwnN.lt {W : World} {B g n : Nat} {f : Nat → Nat} (h : OwnN W B g n f) : g < W.heap.size ∧ B ≤ g := by
  rcases h.2 with ⟨h', _⟩ | ⟨g', cap', cur, h', hb, hg, _⟩
  · cases h'
  · cases h'
    exact ⟨(Array.getElem?_eq_some_iff.1 hg).1, hb⟩
theorem OwnN.grown {W W' : World} {B g n : Nat} {f : Nat → Nat} (h : OwnN W B g n f) (hg : W.grownBy W' none) : OwnN W' B g n f :=
  World.ownsRow.kept h hg (.inr (by simp [Value.ownBlock]))
theorem OwnN.other {W : World} {B g n : Nat} {f : Nat → Nat} (h : OwnN W B g n f) {g' : Nat} (hne : g ≠ g') (k : Nat) (u : Value) : OwnN (W.setCell ⟨g', k, none⟩ u) B g n f :=
  ownsRow_setCell_other h (by simp [Value.ownBlock, hne]) u
theorem OwnN.set {W : World} {B g n : Nat} {f f' : Nat → Nat} (h : OwnN W B g n f) (k b : Nat) (hf : ∀ j, j < n → (if j = k then b else f j) = f' j) : OwnN (W.setCell ⟨g, k, none⟩ (nv b)) B g n f' := by
  have := (World.ownsRow.stored h k (nv b)).1
  rw [rowN_set, rowN_congr hf] at this
  exact this
theorem OwnN.congr {W : World} {B g n : Nat} {f f' : Nat → Nat} (h : OwnN W B g n f) (hf : ∀ j, j < n → f j = f' j) : OwnN W B g n f' := by
  unfold OwnN at h ⊢
  rw [← rowN_congr hf]
  exact h
theorem OwnN.below {W W' : World} {B g n : Nat} {f : Nat → Nat} (h : OwnN W B g n f) (hB : Below W.heap.size W W') : OwnN W' B g n f := by
  have hl := h.lt.1
  refine ⟨h.1, ?_⟩
  rcases h.2 with ⟨h', _⟩ | ⟨g', cap', cur, h', hb, hg, r⟩
  · cases h'
  · cases h'
    exact .inr ⟨g, n, cur, rfl, hb, (hB.block g hl).trans hg, r⟩
theorem madeN {W : World} {B g n : Nat} (h : W.ownsRow B 3 1 (.slice (some ⟨g, 0, none⟩) n n) n (madeCells (Value.int .i64 0).cells (n * 1)).toList) : OwnN W B g n (fun _ => 0) := by
  have e : (madeCells (Value.int .i64 0).cells (n * 1)).toList = rowN n (fun _ => 0) := by
    rw [Nat.mul_one]
    refine (toList_madeCells_one _ _).trans ?_
    unfold rowN
    rw [List.map_const']
    simp
  rw [e] at h
  exact h

theorem Tryz.infoInts : (Tryz.prog.info? 25).map (fun i => (i.zero, i.size, i.bytes)) = some (some (.slice none 0 0), 1, 24) := by kernel_rfl
/-- The slices of the first m rows; the others are not made yet. -/
def topS (n m : Nat) (rb : Nat → Nat) : List Value := (List.range n).map fun i => if i < m then .slice (some ⟨rb i, 0, none⟩) n n else .slice none 0 0
theorem topS_get {n m : Nat} (rb : Nat → Nat) {j : Nat} (h : j < n) : (topS n m rb)[j]? = some (if j < m then .slice (some ⟨rb j, 0, none⟩) n n else .slice none 0 0) := by simp [topS, h]
theorem topS_set (n m : Nat) (rb : Nat → Nat) (b : Nat) : (topS n m rb).set m (.slice (some ⟨b, 0, none⟩) n n) = topS n (m + 1) (fun i => if i = m then b else rb i) := by
  apply List.ext_getElem?
  intro j
  unfold topS
  rw [List.getElem?_set]
  by_cases hj : j < n
  · by_cases e : m = j
    · subst e; simp [hj]
    · have e' : ¬ j = m := fun h => e h.symm
      by_cases h1 : j < m
      · have h2 : j < m + 1 := by omega
        simp [hj, e, e', h1, h2]
      · have h2 : ¬ j < m + 1 := by omega
        simp [hj, e, h1, h2]
  · by_cases e : m = j
    · subst e; simp [hj]
    · simp [hj, e]

/-- A table, its first m rows made. -/
structure Mat (W : World) (B gF n m : Nat) (rb : Nat → Nat) (F : Nat → Nat → Nat) : Prop where
  top : W.ownsRow B 25 1 (.slice (some ⟨gF, 0, none⟩) n n) n (topS n m rb)
  row : ∀ i, i < m → OwnN W B (rb i) n (F i)
  inj : ∀ i j, i < m → j < m → i ≠ j → rb i ≠ rb j
theorem Mat.topCell {W : World} {B gF n m : Nat} {rb : Nat → Nat} {F : Nat → Nat → Nat} (h : Mat W B gF n m rb F) (hm : m ≤ n) {i : Nat} (hi : i < m) : W.cell? ⟨gF, i, none⟩ = some (.slice (some ⟨rb i, 0, none⟩) n n) := by
  have := World.ownsRow.cellAt h.top i (by omega)
  rw [this, topS_get rb (by omega), if_pos hi]
theorem Mat.cell {W : World} {B gF n m : Nat} {rb : Nat → Nat} {F : Nat → Nat → Nat} (h : Mat W B gF n m rb F) {i k : Nat} (hi : i < m) (hk : k < n) : W.cell? ⟨rb i, k, none⟩ = some (nv (F i k)) := (h.row i hi).cell hk
theorem Mat.ne {W : World} {B gF n m : Nat} {rb : Nat → Nat} {F : Nat → Nat → Nat} (h : Mat W B gF n m rb F) {i : Nat} (hi : i < m) : gF ≠ rb i := by
  have h1 := owns_far h.top (h.row i hi) (by decide)
  intro e
  apply h1
  rw [← e]
  rfl
theorem Mat.set {W : World} {B gF n m : Nat} {rb : Nat → Nat} {F F' : Nat → Nat → Nat} (h : Mat W B gF n m rb F) {i k : Nat} (hi : i < m) (b : Nat) (hF : ∀ a j, a < m → j < n → (if a = i ∧ j = k then b else F a j) = F' a j) : Mat (W.setCell ⟨rb i, k, none⟩ (nv b)) B gF n m rb F' := by
  refine ⟨ownsRow_setCell_other h.top (by simp [Value.ownBlock, h.ne hi]) _, fun a ha => ?_, h.inj⟩
  by_cases e : a = i
  · subst e
    exact (h.row a ha).set k b fun j hj => by
      have := hF a j ha hj
      simpa using this
  · refine ((h.row a ha).other (h.inj a i ha hi e) k _).congr fun j hj => ?_
    have := hF a j ha hj
    simpa [e] using this
theorem Mat.below {W W' : World} {B gF n m : Nat} {rb : Nat → Nat} {F : Nat → Nat → Nat} (h : Mat W B gF n m rb F) (hB : Below W.heap.size W W') : Mat W' B gF n m rb F := by
  refine ⟨?_, fun i hi => (h.row i hi).below hB, h.inj⟩
  refine ⟨h.top.1, ?_⟩
  rcases h.top.2 with ⟨h', _⟩ | ⟨g', cap', cur, h', hb, hg, r⟩
  · cases h'
  · cases h'
    exact .inr ⟨gF, n, cur, rfl, hb, (hB.block gF (Array.getElem?_eq_some_iff.1 hg).1).trans hg, r⟩
theorem Mat.drew {W : World} {B gF n m : Nat} {rb : Nat → Nat} {F : Nat → Nat → Nat} (h : Mat W B gF n m rb F) (q : Nat) : Mat (W.drewN q) B gF n m rb F := h.below (below_draws (Below.refl _ W) q)
end Go.Proofs.YtmeplgihnlpjcaaGreatDoor
