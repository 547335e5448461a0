import Derived.Test.YtbgkfmodbofalaaGreatDoorPL51
namespace Go.Proofs.YtbgkfmodbofalaaGreatDoor
open Go.ChangeShapes Go.WideShapes Go.ChangeAt Go.WideMaps Go.WideElems Go.RowKit
theorem plev_two {a b : Bool} (ha : a = true) (hb : b = true) : (a && b) = true := by rw [ha, hb]; rfl
theorem plev_f10 : (Rows.pickLevelsRow.inPlace == Tryz.prog.inPlace 12) = true := by kernel_rfl
theorem plev_f11 : (Rows.pickLevelsRow.unfollowed == Tryz.prog.unfollowed 12) = true := by kernel_rfl
theorem plev_f12 : (Rows.pickLevelsRow.recurses == Tryz.prog.recurses 12) = true := by kernel_rfl
theorem plev_f13 : (Rows.pickLevelsRow.named == Tryz.prog.varsNamed 12) = true := by kernel_rfl
end Go.Proofs.YtbgkfmodbofalaaGreatDoor
