/- The walk of package path's fitParts where the first names fit (by how the slices end: A). -/
import Derived.Test.YtigcogfjclohjaaGreatDoorM7
namespace Go.Proofs.YtigcogfjclohjaaGreatDoor
open Go.RowKit Go.Shelf Go.Lib

set_option maxHeartbeats 8000000 in
theorem fit_trueA (p n : List UInt8) (g o g' o' : Nat) (b : Bool) (w : World)
    (hb : (p == [42, 42]) = false)
    (hc0 : w.cell? ⟨g, o, none⟩ = some (.string (ba p))) (hd0 : w.cell? ⟨g', o', none⟩ = some (.string (ba n)))
    (HC : Hid (∀ W, Below w.heap.size w W → Calls Tryz.prog 96 #[.string (ba p), .string (ba n)] W fun e w' => e = .returned (.bool true) ∧ Below W.heap.size W w'))
    (HI : Hid (∀ W, Below w.heap.size w W → Calls Tryz.prog 69 #[.slice (some ⟨g, o, none⟩) 0 (1 - 1), .slice (some ⟨g', o', none⟩) 0 (1 - 1)] W fun e w' => e = .returned (.bool b) ∧ Below W.heap.size W w')) :
    Calls Tryz.prog 69 #[.slice (some ⟨g, o, none⟩) (0 + 1) 1, .slice (some ⟨g', o', none⟩) (0 + 1) 1] w fun e w' => e = .returned (.bool b) ∧ Below w.heap.size w w' := by
  go_enter Tryz.func69, Tryz.ntmps69
  go_wp2
  first | go_region_with (first | (go_at_call 96; refine (HC.out _ (by exact (Below.refl _ w).drew)).mono ?_; rintro e w1 ⟨rfl, hb1⟩) | (go_at_call 69; refine (HI.out _ (by exact (Below.refl _ w).drew.trans (by assumption))).mono ?_; rintro e w2 ⟨rfl, hb2⟩)) | fail
  all_goals
    go_wp2
    go_ret
    exact ⟨rfl, ((Below.refl _ w).drew.trans hb1).trans (hb2.mono (Nat.le_trans (Nat.le_refl _) hb1.size))⟩
end Go.Proofs.YtigcogfjclohjaaGreatDoor
/- The walk of package path's fitParts where the first names fit (by how the slices end: B). -/
namespace Go.Proofs.YtigcogfjclohjaaGreatDoor
open Go.RowKit Go.Shelf Go.Lib

set_option maxHeartbeats 8000000 in
theorem fit_trueB (p n : List UInt8) (nn g o g' o' cap' : Nat) (b : Bool) (w : World)
    (hb : (p == [42, 42]) = false) (h2 : ¬ cap' = 1) (nc : nn + 1 ≤ cap') (hnl : nn ≤ 1000)
    (hc0 : w.cell? ⟨g, o, none⟩ = some (.string (ba p))) (hd0 : w.cell? ⟨g', o', none⟩ = some (.string (ba n)))
    (HC : Hid (∀ W, Below w.heap.size w W → Calls Tryz.prog 96 #[.string (ba p), .string (ba n)] W fun e w' => e = .returned (.bool true) ∧ Below W.heap.size W w'))
    (HI : Hid (∀ W, Below w.heap.size w W → Calls Tryz.prog 69 #[.slice (some ⟨g, o, none⟩) 0 (1 - 1), .slice (some ⟨g', (o' + 1), none⟩) nn (cap' - 1)] W fun e w' => e = .returned (.bool b) ∧ Below W.heap.size W w')) :
    Calls Tryz.prog 69 #[.slice (some ⟨g, o, none⟩) (0 + 1) 1, .slice (some ⟨g', o', none⟩) (nn + 1) cap'] w fun e w' => e = .returned (.bool b) ∧ Below w.heap.size w w' := by
  have nc' : (nn : Int) + 1 ≤ (cap' : Int) := by omega
  have hnp : (0 : Int) < (nn : Int) + 1 := by omega
  go_enter Tryz.func69, Tryz.ntmps69
  go_wp2
  first | go_region_with (first | (go_at_call 96; refine (HC.out _ (by exact (Below.refl _ w).drew)).mono ?_; rintro e w1 ⟨rfl, hb1⟩) | (go_at_call 69; refine (HI.out _ (by exact (Below.refl _ w).drew.trans (by assumption))).mono ?_; rintro e w2 ⟨rfl, hb2⟩)) | fail
  all_goals
    go_wp2
    go_ret
    exact ⟨rfl, ((Below.refl _ w).drew.trans hb1).trans (hb2.mono (Nat.le_trans (Nat.le_refl _) hb1.size))⟩
end Go.Proofs.YtigcogfjclohjaaGreatDoor
