import Derived.Test.YtgdjgohiaffejaaGreatDoorYF52
namespace Go.Proofs.YtgdjgohiaffejaaGreatDoor
open Go.ChangeShapes Go.WideShapes Go.ChangeAt Go.WideMaps Go.WideElems Go.RowKit
theorem yfresh_two {a b : Bool} (ha : a = true) (hb : b = true) : (a && b) = true := by rw [ha, hb]; rfl
theorem yfresh_f10 : (Rows.yardFreshRow.inPlace == Tryz.prog.inPlace 12) = true := by kernel_rfl
theorem yfresh_f11 : (Rows.yardFreshRow.unfollowed == Tryz.prog.unfollowed 12) = true := by kernel_rfl
theorem yfresh_f12 : (Rows.yardFreshRow.recurses == Tryz.prog.recurses 12) = true := by kernel_rfl
theorem yfresh_f13 : (Rows.yardFreshRow.named == Tryz.prog.varsNamed 12) = true := by kernel_rfl
end Go.Proofs.YtgdjgohiaffejaaGreatDoor
