/- The walk of package path's fitParts where the first names do not fit. -/
import Derived.Test.YtpkkhabiheobnaaDoorFitRow
namespace Go.Proofs.YtpkkhabiheobnaaDoor
open Go.RowKit Go.Shelf Go.Lib

set_option maxHeartbeats 4000000 in
theorem fit_false (p n : List UInt8) (ps ns : List (List UInt8)) (g o cap g' o' cap' : Nat) (w : World)
    (hb : (p == [42, 42]) = false) (hpl : ps.length ≤ 1000) (hnl : ns.length ≤ 1000)
    (hc0 : w.cell? ⟨g, o, none⟩ = some (.string (ba p))) (hd0 : w.cell? ⟨g', o', none⟩ = some (.string (ba n)))
    (HC : Hid (∀ W, Below w.heap.size w W → Calls Tryd.prog 51 #[.string (ba p), .string (ba n)] W fun e w' => e = .returned (.bool false) ∧ Below W.heap.size W w')) :
    Calls Tryd.prog 33 #[.slice (some ⟨g, o, none⟩) (ps.length + 1) cap, .slice (some ⟨g', o', none⟩) (ns.length + 1) cap'] w fun e w' => e = .returned (.bool false) ∧ Below w.heap.size w w' := by
  have hpl0 : (((ps.length : Int) + 1) == 0) = false := by simp; omega
  have hnp : (0 : Int) < (ns.length : Int) + 1 := by omega
  go_enter Tryd.func33, Tryd.ntmps33
  go_wp2
  first | go_region_with (go_at_call 51; refine (HC.out _ (by exact (Below.refl _ w).drew)).mono ?_; rintro e w1 ⟨rfl, hb1⟩) | fail
  all_goals
    go_wp2
    go_ret
    exact ⟨rfl, (Below.refl _ w).drew.trans (by assumption)⟩
end Go.Proofs.YtpkkhabiheobnaaDoor
