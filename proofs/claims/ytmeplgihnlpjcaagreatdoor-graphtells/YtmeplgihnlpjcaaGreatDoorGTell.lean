/- Statements' numbers; SameTexts at two lists of the same texts. -/
import Derived.Test.YtmeplgihnlpjcaaGreatDoorMG13
import Derived.Test.YtmeplgihnlpjcaaGreatDoorMG3
namespace Go.Proofs.YtmeplgihnlpjcaaGreatDoor
open Go.RowKit Go.Shelf Go.Lib

set_option maxRecDepth 100000 in
set_option maxHeartbeats 4000000 in
theorem SameTexts_ir {w : World} (a b : Value) (l : List (List UInt8)) (ha : IRow w a l) (hb : IRow w b l) (hl : l.length ≤ 1000) :
    Calls Tryz.prog 23 #[a, b] w fun e w' => e = .returned (.bool true) ∧ ∃ q, w' = w.drewN q := by
  obtain ⟨pa, ca, rfl, ha⟩ := ha
  obtain ⟨pb, cb, rfl, hb⟩ := hb
  have HA := hid1 ha
  have HB := hid1 hb
  clear ha hb
  have zl : (l.length : Int) ≤ 1000 := by omega
  go_enter Tryz.func23, Tryz.ntmps23
  go_wp2
  go_loopw [5] (fun i wr => ∃ k : Nat, k ≤ l.length ∧ i = .int .i64 k ∧ ∃ q, wr = w.drewN q) (fun i _ => l.length - (intOf i).toNat)
  case atStart => exact ⟨0, Nat.zero_le _, rfl, 0, rfl⟩
  case round =>
    obtain ⟨k, hk, rfl, q, rfl⟩ := hrel
    have c0 : (0 : Int) ≤ (k : Int) := by omega
    by_cases hlt : k < l.length
    · have c1 : (k : Int) < (l.length : Int) := by omega
      obtain ⟨ga, oa, rfl, _, h1⟩ := HA.out (by intro e; rw [e] at hlt; simp at hlt)
      obtain ⟨gb, ob, rfl, _, h2⟩ := HB.out (by intro e; rw [e] at hlt; simp at hlt)
      have d1 := h1 k hlt
      have d2 := h2 k hlt
      clear h1 h2 HA HB
      generalize l[k] = y at *
      go_wp2
      go_region
      go_wp2
      exact ⟨⟨k + 1, by omega, by go_num, q + 1, rfl⟩, by simp [intOf]; omega⟩
    · have c1 : (l.length : Int) ≤ (k : Int) := by omega
      clear HA HB
      go_wp2
      go_ret
      exact ⟨rfl, q, rfl⟩

theorem filter_succ (f : Nat → Bool) (k : Nat) : (List.range (k + 1)).filter f = (List.range k).filter f ++ (if f k = true then [k] else []) := by
  rw [List.range_succ, List.filter_append]
  congr 1
  simp [List.filter_cons]

set_option maxRecDepth 100000 in
set_option maxHeartbeats 4000000 in
theorem numbers_calls {w : World} (g n : Nat) (f : Nat → Bool) (hn : n ≤ 1000) (hc : ∀ j, j < n → w.cell? ⟨g, j, none⟩ = some (.bool (f j))) :
    Calls Tryz.prog 26 #[.slice (some ⟨g, 0, none⟩) n n] w fun e w' => ∃ u, e = .returned u ∧ NRow w' u ((List.range n).filter f) ∧ Below w.heap.size w w' := by
  obtain ⟨i1, hI, hI0, hI1, hI2⟩ := info_parts Tryz.infoInt
  have HC := hid1 fun W (gb : Below w.heap.size w W) j (hj : j < n) => cell_below' (hc j hj) gb
  have zn : (n : Int) ≤ 1000 := by omega
  have n1 : World.ownsRow w w.heap.size 3 1 (.slice none 0 0) 0 (([] : List Nat).map nv) := World.ownsRow_nil _ _ _ _
  clear hc
  go_enter Tryz.func26, Tryz.ntmps26
  go_wp2
  go_loopw [3, 4] (fun ov iv wr => ∃ i : Nat, i ≤ n ∧ iv = .int .i64 i ∧ wr.ownsRow w.heap.size 3 1 ov ((List.range i).filter f).length (((List.range i).filter f).map nv) ∧ Below w.heap.size w wr) (fun _ iv _ => n - (intOf iv).toNat)
  case atStart => exact ⟨0, Nat.zero_le _, rfl, n1, Below.refl _ _⟩
  case round =>
    obtain ⟨i, hil, rfl, hrow, B⟩ := hrel
    have c0 : (0 : Int) ≤ (i : Int) := by omega
    by_cases hilt : i < n
    · have c1 : (i : Int) < (n : Int) := by omega
      have d0 := HC.out wr B i hilt
      have HT := hid1 (filter_succ f i)
      have hlen : ((List.range i).filter f).length ≤ i := by
        have := List.length_filter_le f (List.range i)
        simpa using this
      have hml : ((List.range i).filter f).length + 1 ≤ maxLen := by unfold maxLen; omega
      have hbz : w.heap.size ≤ wr.heap.size := B.size
      generalize (List.range i).filter f = sm at *
      cases hf : f i with
      | true =>
        rw [hf] at d0 HT
        go_wp2_with (at_builtin; refine wpList_append_own _ rfl _ _ 25 rfl w.heap.size 3 i1 (.int .i64 0) 1 8 Tryz.underlying25 hI hI0 hI1 hI2 rfl (by decide) _ _ _ rfl (hrow.alloc _) ⟨wr.heap.size, 0, none⟩ 1 1 [nv i] rfl rfl (cell_one_new _ _ _) (by simp [Value.oneCell']) hml (by omega) (by simp; omega) ?_; intro v' w2 hown' hgrow _)
        refine ⟨⟨i + 1, by omega, by go_num, ?_, below_appended B hbz hrow hgrow⟩, by simp [intOf]; omega⟩
        rw [HT.out]
        simpa using hown'
      | false =>
        rw [hf] at d0 HT
        go_wp2
        refine ⟨⟨i + 1, by omega, by go_num, ?_, B⟩, by simp [intOf]; omega⟩
        rw [HT.out]
        simpa using hrow
    · have c1 : (n : Int) ≤ (i : Int) := by omega
      obtain rfl : i = n := by omega
      have hN := NRow.of_owns hrow
      clear hrow
      go_wp2
      go_ret
      exact ⟨_, rfl, hN, B⟩
end Go.Proofs.YtmeplgihnlpjcaaGreatDoor
