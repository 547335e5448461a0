/- The document's answer's SameTexts at two slices of the same texts, wherever they begin. -/
import Derived.Test.YthokjegephlpmaaDoorIRowT
namespace Go.Proofs.YthokjegephlpmaaDoor
open Go.RowKit Go.Shelf Go.Lib

set_option maxRecDepth 100000 in
set_option maxHeartbeats 4000000 in
theorem SameTexts_ir {w : World} (a b : Value) (l : List (List UInt8)) (ha : IRow w a l) (hb : IRow w b l) (hl : l.length ≤ 1000) :
    Calls Tryd.prog 10 #[a, b] w fun e w' => e = .returned (.bool true) ∧ ∃ q, w' = w.drewN q := by
  obtain ⟨pa, ca, rfl, ha⟩ := ha
  obtain ⟨pb, cb, rfl, hb⟩ := hb
  have HA := hid1 ha
  have HB := hid1 hb
  clear ha hb
  have zl : (l.length : Int) ≤ 1000 := by omega
  go_enter Tryd.func10, Tryd.ntmps10
  go_wp2
  go_loopw [5] (fun i wr => ∃ k : Nat, k ≤ l.length ∧ i = .int .i64 k ∧ ∃ q, wr = w.drewN q) (fun i _ => l.length - (intOf i).toNat)
  case atStart => exact ⟨0, Nat.zero_le _, rfl, 0, rfl⟩
  case round =>
    obtain ⟨k, hk, rfl, q, rfl⟩ := hrel
    have c0 : (0 : Int) ≤ (k : Int) := by omega
    by_cases hlt : k < l.length
    · have c1 : (k : Int) < (l.length : Int) := by omega
      obtain ⟨ga, oa, rfl, _, h1⟩ := HA.out (by intro e; rw [e] at hlt; simp at hlt)
      obtain ⟨gb, ob, rfl, _, h2⟩ := HB.out (by intro e; rw [e] at hlt; simp at hlt)
      have d1 := h1 k hlt
      have d2 := h2 k hlt
      clear h1 h2 HA HB
      generalize l[k] = y at *
      go_wp2
      go_region
      go_wp2
      exact ⟨⟨k + 1, by omega, by go_num, q + 1, rfl⟩, by simp [intOf]; omega⟩
    · have c1 : (l.length : Int) ≤ (k : Int) := by omega
      clear HA HB
      go_wp2
      go_ret
      exact ⟨rfl, q, rfl⟩

end Go.Proofs.YthokjegephlpmaaDoor
