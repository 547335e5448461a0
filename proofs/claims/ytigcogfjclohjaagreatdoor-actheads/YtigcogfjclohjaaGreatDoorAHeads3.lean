/- ActHeads, at whatever arguments. -/
import Derived.Test.YtigcogfjclohjaaGreatDoorAHeads2
namespace Go.Proofs.YtigcogfjclohjaaGreatDoor
open Go.RowKit Go.Shelf Go.Lib

set_option maxRecDepth 100000 in
set_option maxHeartbeats 4000000 in
theorem ActHeads_calls {w : World} {es el : Value} (hA : AW w es el) (hSy : SynAt w) (s : List UInt8) (a b : Int) :
    Calls Tryz.prog 7 #[.string (ba s), .int .i64 a, .int .i64 b] w fun e w' => e = .returned (.bool true) ∧ Below w.heap.size w w' := by
  have HD := hid1 (acted_calls hA)
  rcases Nat.lt_or_ge 1500 s.length with hs | hs
  · have z1 : (1500 : Int) < (s.length : Int) := by omega
    clear hA hSy
    go_enter Tryz.func7, Tryz.ntmps7
    go_wp2_with fail
    refine Calls.mono HD.out ?_
    rintro e w1 ⟨rfl, g1⟩
    go_wp2
    go_ret
    exact ⟨rfl, g1⟩
  have z1 : (s.length : Int) ≤ 1500 := by omega
  rcases Int.lt_or_le a 0 with ha | ha
  · clear hA hSy
    go_enter Tryz.func7, Tryz.ntmps7
    go_wp2_with fail
    refine Calls.mono HD.out ?_
    rintro e w1 ⟨rfl, g1⟩
    go_wp2
    go_ret
    exact ⟨rfl, g1⟩
  rcases Int.lt_or_le 999 a with ha2 | ha2
  · clear hA hSy
    go_enter Tryz.func7, Tryz.ntmps7
    go_wp2_with fail
    refine Calls.mono HD.out ?_
    rintro e w1 ⟨rfl, g1⟩
    go_wp2
    go_ret
    exact ⟨rfl, g1⟩
  rcases Int.lt_or_le b 0 with hb | hb
  · clear hA hSy
    go_enter Tryz.func7, Tryz.ntmps7
    go_wp2_with fail
    refine Calls.mono HD.out ?_
    rintro e w1 ⟨rfl, g1⟩
    go_wp2
    go_ret
    exact ⟨rfl, g1⟩
  rcases Int.lt_or_le 999 b with hb2 | hb2
  · clear hA hSy
    go_enter Tryz.func7, Tryz.ntmps7
    go_wp2_with fail
    refine Calls.mono HD.out ?_
    rintro e w1 ⟨rfl, g1⟩
    go_wp2
    go_ret
    exact ⟨rfl, g1⟩
  obtain ⟨m, rfl⟩ : ∃ m : Nat, a = (m : Int) := ⟨a.toNat, by omega⟩
  obtain ⟨n, rfl⟩ : ∃ n : Nat, b = (n : Int) := ⟨b.toNat, by omega⟩
  exact ActHeads_short hA hSy s m n hs (by omega) (by omega)
end Go.Proofs.YtigcogfjclohjaaGreatDoor
