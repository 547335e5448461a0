/- The document's answer's Index: the walk. -/
import Derived.Test.YthokjegephlpmaaDoorIRowT
namespace Go.Proofs.YthokjegephlpmaaDoor
open Go.RowKit Go.Shelf Go.Lib

set_option maxRecDepth 100000 in
set_option maxHeartbeats 4000000 in
/-- Index of a text in texts: its first place. -/
theorem rIndex_calls {w : World} (v : Value) (l : List (List UInt8)) (x : List UInt8) (hrow : IRow w v l) (hl : l.length ≤ 1000000) :
    Calls Tryd.prog 16 #[v, .string (ba x)] w fun e w' => ∃ r : Int, e = .returned (.int .i64 r) ∧ w' = w ∧ ((r = -1 ∧ x ∉ l) ∨ ∃ k : Nat, r = k ∧ ∃ h : k < l.length, l[k] = x ∧ x ∉ l.take k) := by
  obtain ⟨p, cap, rfl, hin⟩ := hrow
  have HI := hid1 hin
  clear hin
  have zl : (l.length : Int) ≤ 1000000 := by omega
  go_enter Tryd.func16, Tryd.ntmps16
  go_wp2
  go_loopw [5] (fun i wr => ∃ k : Nat, k ≤ l.length ∧ i = .int .i64 k ∧ x ∉ l.take k ∧ w = wr) (fun i _ => l.length - (intOf i).toNat)
  case atStart => exact ⟨0, Nat.zero_le _, rfl, by simp, rfl⟩
  case round =>
    obtain ⟨k, hk, rfl, hz, rfl⟩ := hrel
    have HZ := hid1 hz
    clear hz
    have c0 : (0 : Int) ≤ (k : Int) := by omega
    by_cases hlt : k < l.length
    · have c1 : (k : Int) < (l.length : Int) := by omega
      obtain ⟨g', o, rfl, hg, hcur⟩ := HI.out (by intro e; rw [e] at hlt; simp at hlt)
      have hcell := hcur k hlt
      have HT : Hid (l[k] ≠ x → x ∉ l.take (k + 1)) := hid1 fun hne => by
        rw [List.take_succ_eq_append_getElem hlt]
        simp only [List.mem_append, List.mem_singleton, not_or]
        exact ⟨HZ.out, fun e => hne e.symm⟩
      have HP : Hid (l[k] = x → ∃ j : Nat, (k : Int) = j ∧ ∃ h : j < l.length, l[j] = x ∧ x ∉ l.take j) := hid1 fun he => ⟨k, rfl, hlt, he, HZ.out⟩
      clear hcur HI HZ
      generalize l[k] = y at *
      by_cases he : y = x
      · subst he
        have HPP := hid1 (HP.out rfl)
        clear HP HT
        go_wp2
        go_ret
        exact ⟨_, rfl, rfl, .inr HPP.out⟩
      · have e1 : (y == x) = false := by simpa using he
        have HTT := hid1 (HT.out he)
        clear HP HT
        go_wp2
        exact ⟨⟨k + 1, by omega, by go_num, HTT.out, trivial⟩, by simp [intOf]; omega⟩
    · have c1 : (l.length : Int) ≤ (k : Int) := by omega
      have HN : Hid (x ∉ l) := hid1 (by
        have := HZ.out
        rwa [List.take_of_length_le (by omega)] at this)
      clear HI HZ
      go_wp2
      go_ret
      exact ⟨_, rfl, rfl, .inl ⟨rfl, HN.out⟩⟩

theorem index_lt {l : List (List UInt8)} {k : Nat} (hk : k < l.length) {r : Int} (h : (r = -1 ∧ l[k] ∉ l) ∨ ∃ j : Nat, r = j ∧ ∃ h : j < l.length, l[j] = l[k] ∧ l[k] ∉ l.take j) : decide (r < (k : Int)) = decide (l[k] ∈ l.take k) := by
  rcases h with ⟨_, h⟩ | ⟨j, rfl, hj, he, hn⟩
  · exact absurd (List.getElem_mem hk) h
  · rw [decide_eq_decide]
    constructor
    · intro h
      rw [← he]
      have : j < (l.take k).length := by simp; omega
      have h2 := List.getElem_mem this
      rwa [List.getElem_take] at h2
    · intro h
      rcases Nat.lt_or_ge j k with h' | h'
      · omega
      · exfalso
        apply hn
        exact (List.take_sublist_take_left h').subset h

end Go.Proofs.YthokjegephlpmaaDoor
