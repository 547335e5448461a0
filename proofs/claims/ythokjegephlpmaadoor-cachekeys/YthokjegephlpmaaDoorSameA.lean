/- The document's answer's SameTexts at any two slices of texts. -/
import Derived.Test.YthokjegephlpmaaDoorIRowT
namespace Go.Proofs.YthokjegephlpmaaDoor
open Go.RowKit Go.Shelf Go.Lib

set_option maxRecDepth 100000 in
set_option maxHeartbeats 4000000 in
theorem SameTexts_any {w : World} (a b : Value) (la lb : List (List UInt8)) (ha : IRow w a la) (hb : IRow w b lb) (hl : la.length ≤ 1000) (hl2 : lb.length ≤ 1000) :
    Calls Tryd.prog 10 #[a, b] w fun e w' => e = .returned (.bool (decide (la = lb))) ∧ ∃ q, w' = w.drewN q := by
  obtain ⟨pa, ca, rfl, ha⟩ := ha
  obtain ⟨pb, cb, rfl, hb⟩ := hb
  have HA := hid1 ha
  have HB := hid1 hb
  clear ha hb
  have zl : (la.length : Int) ≤ 1000 := by omega
  have zl2 : (lb.length : Int) ≤ 1000 := by omega
  by_cases hlen : la.length = lb.length
  · have HEq : Hid (∀ k, la.length ≤ k → la.take k = lb.take k → decide (la = lb) = true) := hid1 fun k hk h => by
      rw [List.take_of_length_le hk, List.take_of_length_le (by omega)] at h
      simpa using h
    have HNe : Hid (∀ k (h1 : k < la.length) (h2 : k < lb.length), la[k] ≠ lb[k] → decide (la = lb) = false) := hid1 fun k h1 h2 h => by
      rw [decide_eq_false_iff_not]
      rintro rfl
      exact h rfl
    generalize decide (la = lb) = dd at *
    rw [← hlen]
    have HLen := hid1 hlen
    clear hlen
    go_enter Tryd.func10, Tryd.ntmps10
    go_wp2
    go_loopw [5] (fun i wr => ∃ k : Nat, k ≤ la.length ∧ i = .int .i64 k ∧ la.take k = lb.take k ∧ ∃ q, wr = w.drewN q) (fun i _ => la.length - (intOf i).toNat)
    case atStart => exact ⟨0, Nat.zero_le _, rfl, by simp, 0, rfl⟩
    case round =>
      obtain ⟨k, hk, rfl, ht, q, rfl⟩ := hrel
      have HT := hid1 ht
      clear ht
      have c0 : (0 : Int) ≤ (k : Int) := by omega
      by_cases hlt : k < la.length
      · have c1 : (k : Int) < (la.length : Int) := by omega
        have hlt2 : k < lb.length := by rw [← HLen.out]; exact hlt
        obtain ⟨ga, oa, rfl, _, h1⟩ := HA.out (by intro e; rw [e] at hlt; simp at hlt)
        obtain ⟨gb, ob, rfl, _, h2⟩ := HB.out (by intro e; rw [e] at hlt2; simp at hlt2)
        have d1 := h1 k hlt
        have d2 := h2 k hlt2
        have HS : Hid (la[k] = lb[k] → la.take (k + 1) = lb.take (k + 1)) := hid1 fun h => by
          rw [List.take_succ_eq_append_getElem hlt, List.take_succ_eq_append_getElem hlt2, HT.out, h]
        have HN := hid1 (HNe.out k hlt hlt2)
        clear h1 h2 HA HB HNe
        generalize la[k] = x at *
        generalize lb[k] = y at *
        by_cases he : x = y
        · subst he
          have HSS := hid1 (HS.out rfl)
          clear HS HN
          go_wp2
          go_region
          go_wp2
          exact ⟨⟨k + 1, by omega, by go_num, HSS.out, q + 1, rfl⟩, by simp [intOf]; omega⟩
        · have e1 : (x == y) = false := by simpa using he
          have e2 := HN.out he
          subst e2
          clear HS HN
          go_wp2
          go_region
          go_wp2
          go_ret
          exact ⟨rfl, q + 1, rfl⟩
      · have c1 : (la.length : Int) ≤ (k : Int) := by omega
        have e2 := HEq.out k (by omega) HT.out
        subst e2
        clear HA HB HT HEq HNe
        go_wp2
        go_ret
        exact ⟨rfl, q, rfl⟩
  · have e1 : decide (la = lb) = false := by
      rw [decide_eq_false_iff_not]
      rintro rfl
      exact hlen rfl
    have e2 : ((la.length : Int) == (lb.length : Int)) = false := by simp; omega
    rw [e1]
    clear HA HB e1
    go_enter Tryd.func10, Tryd.ntmps10
    go_wp2
    go_ret
    exact ⟨rfl, 0, rfl⟩
end Go.Proofs.YthokjegephlpmaaDoor
