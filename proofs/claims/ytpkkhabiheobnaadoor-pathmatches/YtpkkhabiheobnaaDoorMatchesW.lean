/- The walk of PathMatches, over what Match and the document's answer tell. -/
import Derived.Test.YtpkkhabiheobnaaDoorCleans
namespace Go.Proofs.YtpkkhabiheobnaaDoor
open Go.RowKit Go.Shelf Go.Lib

set_option maxHeartbeats 4000000 in
theorem Matches_walk (p s : List UInt8) (hp : p.length ≤ 100) (hs : s.length ≤ 100) (b : Bool) (ev : Value) (c : Int) (es : Nat → Addr) (w : World) (hE : E12 w es)
    (HM : Hid (∀ W, Below w.heap.size w W → Calls Tryd.prog 21 #[.string (ba p), .string (ba s)] W fun e w' => e = .returned (.tuple #[.bool b, ev]) ∧ Below W.heap.size W w'))
    (HR : Hid (∀ W, Calls Tryd.prog 22 #[.string (ba p), .string (ba s)] W fun e w' => e = .returned (.tuple #[.bool b, .int .i64 c]) ∧ Below W.heap.size W w'))
    (HC : Hid (∀ W, Below w.heap.size w W → Calls Tryd.prog 10 #[ev, .int .i64 c] W fun e w' => e = .returned (.bool true) ∧ Below W.heap.size W w')) :
    Calls Tryd.prog 6 #[.string (ba p), .string (ba s)] w fun e w' => e = .returned (.bool true) ∧ Below w.heap.size w w' := by
  have z1 : (p.length : Int) ≤ 100 := by omega
  have z2 : (s.length : Int) ≤ 100 := by omega
  go_enter Tryd.func6, Tryd.ntmps6
  go_wp2_with fail
  refine (pathed_calls w hE.errs).mono ?_
  rintro e w1 ⟨rfl, g1⟩
  go_wp2_with fail
  refine (HM.out _ g1).mono ?_
  rintro e w2 ⟨rfl, g2'⟩
  have g2 := g1.trans (g2'.mono g1.size)
  clear g1 g2'
  go_wp2_with fail
  refine (HR.out _).mono ?_
  rintro e w3 ⟨rfl, g3'⟩
  have g3 := g2.trans (g3'.mono g2.size)
  clear g2 g3'
  go_wp2_with fail
  refine (HC.out _ g3).mono ?_
  rintro e w4 ⟨rfl, g4'⟩
  have g4 := g3.trans (g4'.mono g3.size)
  clear g3 g4'
  cases b
  · go_wp2
    go_ret
    exact ⟨rfl, g4⟩
  · go_wp2
    go_ret
    exact ⟨rfl, g4⟩

theorem Matches_long (a b : ByteArray) (h : 100 < a.size ∨ 100 < b.size) (es : Nat → Addr) (w : World) (hE : E12 w es) :
    Calls Tryd.prog 6 #[.string a, .string b] w fun e w' => e = .returned (.bool true) ∧ Below w.heap.size w w' := by
  rcases Nat.lt_or_ge 100 a.size with h1 | h1
  · have hz : (100 : Int) < (a.size : Int) := by omega
    clear h h1
    go_enter Tryd.func6, Tryd.ntmps6
    go_wp2_with fail
    refine (pathed_calls w hE.errs).mono ?_
    rintro e w1 ⟨rfl, g1⟩
    go_wp2
    go_ret
    exact ⟨rfl, g1⟩
  · have hy : (a.size : Int) ≤ 100 := by omega
    have hz : (100 : Int) < (b.size : Int) := by omega
    clear h h1
    go_enter Tryd.func6, Tryd.ntmps6
    go_wp2_with fail
    refine (pathed_calls w hE.errs).mono ?_
    rintro e w1 ⟨rfl, g1⟩
    go_wp2
    go_ret
    exact ⟨rfl, g1⟩
end Go.Proofs.YtpkkhabiheobnaaDoor
