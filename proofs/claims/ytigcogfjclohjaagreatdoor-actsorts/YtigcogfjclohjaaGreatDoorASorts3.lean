/- ActSorts, at whatever texts; what the listed variables give. -/
import Derived.Test.YtigcogfjclohjaaGreatDoorASorts2
import Derived.Test.YtigcogfjclohjaaGreatDoorTLaid
namespace Go.Proofs.YtigcogfjclohjaaGreatDoor
open Go.RowKit Go.Shelf Go.Lib

set_option maxRecDepth 100000 in
set_option maxHeartbeats 4000000 in
theorem ActSorts_calls {w : World} {es el : Value} (hA : AW w es el) (a b c : List UInt8) :
    Calls Tryz.prog 6 #[.string (ba a), .string (ba b), .string (ba c)] w fun e w' => e = .returned (.bool true) ∧ Below w.heap.size w w' := by
  have HD := hid1 (acted_calls hA)
  rcases Nat.lt_or_ge 500 a.length with ha | ha
  · have z1 : (500 : Int) < (a.length : Int) := by omega
    clear hA
    go_enter Tryz.func6, Tryz.ntmps6
    go_wp2_with fail
    refine Calls.mono HD.out ?_
    rintro e w1 ⟨rfl, g1⟩
    go_wp2
    go_ret
    exact ⟨rfl, g1⟩
  rcases Nat.lt_or_ge 500 b.length with hb | hb
  · have z1 : (a.length : Int) ≤ 500 := by omega
    have z2 : (500 : Int) < (b.length : Int) := by omega
    clear hA
    go_enter Tryz.func6, Tryz.ntmps6
    go_wp2_with fail
    refine Calls.mono HD.out ?_
    rintro e w1 ⟨rfl, g1⟩
    go_wp2
    go_ret
    exact ⟨rfl, g1⟩
  rcases Nat.lt_or_ge 500 c.length with hc | hc
  · have z1 : (a.length : Int) ≤ 500 := by omega
    have z2 : (b.length : Int) ≤ 500 := by omega
    have z3 : (500 : Int) < (c.length : Int) := by omega
    clear hA
    go_enter Tryz.func6, Tryz.ntmps6
    go_wp2_with fail
    refine Calls.mono HD.out ?_
    rintro e w1 ⟨rfl, g1⟩
    go_wp2
    go_ret
    exact ⟨rfl, g1⟩
  exact ActSorts_short hA a b c ha hb hc
end Go.Proofs.YtigcogfjclohjaaGreatDoor
