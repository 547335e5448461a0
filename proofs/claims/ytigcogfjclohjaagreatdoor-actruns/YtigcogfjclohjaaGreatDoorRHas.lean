/- The document's answer's has, in and lay. -/
import Derived.Test.YtigcogfjclohjaaGreatDoorMR5
import Derived.Lib.IndexMore
namespace Go.Proofs.YtigcogfjclohjaaGreatDoor
open Go.RowKit Go.Shelf Go.Lib

theorem occAt_far {s wd : List UInt8} {i : Nat} (h : s.length < i + wd.length) (hi : i ≤ s.length) : Lib.occAt s wd i = false := by
  cases ho : Lib.occAt s wd i with
  | false => rfl
  | true =>
    rcases Lib.occAt_room ho with h1 | h1
    · omega
    · subst h1
      simp at h
      omega

set_option maxRecDepth 100000 in
set_option maxHeartbeats 4000000 in
theorem has_calls (s wd : List UInt8) (i : Nat) (hs : s.length ≤ 1000000) (hw : wd.length ≤ 1000000) (hi : i ≤ s.length) (w : World) :
    Calls Tryz.prog 76 #[.string (ba s), .int .i64 i, .string (ba wd)] w fun e w' => e = .returned (.bool (Lib.occAt s wd i)) ∧ w' = w := by
  have z1 : (s.length : Int) ≤ 1000000 := by omega
  have z2 : (wd.length : Int) ≤ 1000000 := by omega
  have z3 : (i : Int) ≤ (s.length : Int) := by omega
  have z4 : (0 : Int) ≤ (i : Int) := by omega
  have z5 : (0 : Int) ≤ (wd.length : Int) := by omega
  by_cases hr : i + wd.length ≤ s.length
  · have ho := Lib.occAt_iff_take s wd i hr
    have d1 : decide ((i : Int) + (wd.length : Int) ≤ (s.length : Int)) = true := decide_eq_true (by omega)
    have d2 : (i : Int) + (wd.length : Int) ≤ (s.length : Int) := by omega
    have d3 : (i : Int) ≤ (i : Int) + (wd.length : Int) := by omega
    have e1 : (ba s).extract i (i + wd.length) = ba ((s.drop i).take wd.length) := by
      have := (Txt.mk (bs := ba s) (s := s) rfl).extract i (i + wd.length)
      rw [this]
      congr 1
      rw [List.drop_take, Nat.add_sub_cancel_left]
    have HO := hid1 ho
    generalize Lib.occAt s wd i = r at *
    generalize (s.drop i).take wd.length = y at *
    clear ho
    go_enter Tryz.func76, Tryz.ntmps76
    go_wp2
    go_ret
    exact ⟨ret_bool HO.out.symm, rfl⟩
  · have ho := occAt_far (s := s) (wd := wd) (i := i) (by omega) hi
    have d1 : decide ((i : Int) + (wd.length : Int) ≤ (s.length : Int)) = false := decide_eq_false (by omega)
    rw [ho]
    clear ho
    go_enter Tryz.func76, Tryz.ntmps76
    go_wp2
    go_ret
    exact ⟨rfl, rfl⟩

set_option maxRecDepth 100000 in
set_option maxHeartbeats 4000000 in
theorem in_calls (s wd : List UInt8) (hs : s.length ≤ 1000000) (hw : wd.length ≤ 1000000) (w : World) :
    Calls Tryz.prog 74 #[.string (ba s), .string (ba wd)] w fun e w' => e = .returned (.bool (Lib.contains s wd)) ∧ w' = w := by
  have HH := hid1 fun (i : Nat) (hi : i ≤ s.length) => has_calls s wd i hs hw hi w
  have HI := hid1 (Lib.index_spec s wd)
  have HQ : Hid (Lib.contains s wd = decide (0 ≤ Lib.index s wd)) := rfl
  generalize Lib.contains s wd = r at *
  generalize Lib.index s wd = ix at *
  have z1 : (s.length : Int) ≤ 1000000 := by omega
  go_enter Tryz.func74, Tryz.ntmps74
  go_wp2
  go_loopw [5] (fun i wr => ∃ k : Nat, k ≤ s.length + 1 ∧ i = .int .i64 k ∧ Lib.NoOcc s wd k ∧ wr = w) (fun i _ => s.length + 1 - (intOf i).toNat)
  case atStart => exact ⟨0, by omega, rfl, Lib.NoOcc.zero _ _, rfl⟩
  case round =>
    obtain ⟨k, hk, rfl, hno, rfl⟩ := hrel
    have HNO := hid1 hno
    clear hno
    by_cases hle : k ≤ s.length
    · have c1 : (k : Int) ≤ (s.length : Int) := by omega
      have H1 := HH.out k hle
      cases ho : Lib.occAt s wd k with
      | false =>
        rw [ho] at H1
        go_wp2_with fail
        refine Calls.mono H1 ?_
        rintro e w1 ⟨rfl, rfl⟩
        go_wp2
        exact ⟨⟨k + 1, by omega, by go_num, HNO.out.succ ho, trivial⟩, by simp [intOf]; omega⟩
      | true =>
        rw [ho] at H1
        go_wp2_with fail
        refine Calls.mono H1 ?_
        rintro e w1 ⟨rfl, rfl⟩
        go_wp2
        go_ret
        refine ⟨ret_bool ?_, rfl⟩
        rw [HQ.out]
        rcases HI.out with ⟨_, h2⟩ | ⟨j, h2, _⟩
        · rw [h2 k hle] at ho
          cases ho
        · rw [h2]; simp
    · have c1 : (s.length : Int) < (k : Int) := by omega
      go_wp2
      go_ret
      refine ⟨ret_bool ?_, rfl⟩
      rw [HQ.out]
      rcases HI.out with ⟨h2, _⟩ | ⟨j, _, h3, h4, _⟩
      · rw [h2]; rfl
      · have := HNO.out j (by omega)
        rw [this] at h4
        cases h4
end Go.Proofs.YtigcogfjclohjaaGreatDoor
