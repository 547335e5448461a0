/- The walk of package path's fitParts where the first names fit. -/
import Derived.Test.YtpkkhabiheobnaaDoorFitTrueA
import Derived.Test.YtpkkhabiheobnaaDoorFitTrueB
import Derived.Test.YtpkkhabiheobnaaDoorFitTrueC
import Derived.Test.YtpkkhabiheobnaaDoorFitTrueD
namespace Go.Proofs.YtpkkhabiheobnaaDoor
open Go.RowKit Go.Shelf Go.Lib

theorem fit_true (p n : List UInt8) (pn nn : Nat) (g o cap o1 g' o' cap' o2 : Nat) (ho : At1 o cap o1) (ho' : At1 o' cap' o2) (b : Bool) (w : World)
    (hb : (p == [42, 42]) = false) (pc : pn + 1 ≤ cap) (nc : nn + 1 ≤ cap') (hpl : pn ≤ 1000) (hnl : nn ≤ 1000)
    (hc0 : w.cell? ⟨g, o, none⟩ = some (.string (ba p))) (hd0 : w.cell? ⟨g', o', none⟩ = some (.string (ba n)))
    (HC : Hid (∀ W, Below w.heap.size w W → Calls Tryd.prog 51 #[.string (ba p), .string (ba n)] W fun e w' => e = .returned (.bool true) ∧ Below W.heap.size W w'))
    (HI : Hid (∀ W, Below w.heap.size w W → Calls Tryd.prog 33 #[.slice (some ⟨g, o1, none⟩) pn (cap - 1), .slice (some ⟨g', o2, none⟩) nn (cap' - 1)] W fun e w' => e = .returned (.bool b) ∧ Below W.heap.size W w')) :
    Calls Tryd.prog 33 #[.slice (some ⟨g, o, none⟩) (pn + 1) cap, .slice (some ⟨g', o', none⟩) (nn + 1) cap'] w fun e w' => e = .returned (.bool b) ∧ Below w.heap.size w w' := by
  rcases ho with ⟨rfl, rfl⟩ | ⟨h1, rfl⟩ <;> rcases ho' with ⟨rfl, rfl⟩ | ⟨h2, rfl⟩
  · obtain rfl : pn = 0 := by omega
    obtain rfl : nn = 0 := by omega
    exact fit_trueA p n g _ g' _ b w hb hc0 hd0 HC HI
  · obtain rfl : pn = 0 := by omega
    exact fit_trueB p n nn g _ g' o' cap' b w hb h2 nc hnl hc0 hd0 HC HI
  · obtain rfl : nn = 0 := by omega
    exact fit_trueC p n pn g o cap g' _ b w hb h1 pc hpl hc0 hd0 HC HI
  · exact fit_trueD p n pn nn g o cap g' o' cap' b w hb h1 pc hpl h2 nc hnl hc0 hd0 HC HI
end Go.Proofs.YtpkkhabiheobnaaDoor
