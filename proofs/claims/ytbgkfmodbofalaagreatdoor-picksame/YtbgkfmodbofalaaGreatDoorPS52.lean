import Derived.Test.YtbgkfmodbofalaaGreatDoorPS51
namespace Go.Proofs.YtbgkfmodbofalaaGreatDoor
open Go.ChangeShapes Go.WideShapes Go.ChangeAt Go.WideMaps Go.WideElems Go.RowKit
theorem psame_two {a b : Bool} (ha : a = true) (hb : b = true) : (a && b) = true := by rw [ha, hb]; rfl
theorem psame_f10 : (Rows.pickSameRow.inPlace == Tryz.prog.inPlace 13) = true := by kernel_rfl
theorem psame_f11 : (Rows.pickSameRow.unfollowed == Tryz.prog.unfollowed 13) = true := by kernel_rfl
theorem psame_f12 : (Rows.pickSameRow.recurses == Tryz.prog.recurses 13) = true := by kernel_rfl
theorem psame_f13 : (Rows.pickSameRow.named == Tryz.prog.varsNamed 13) = true := by kernel_rfl
end Go.Proofs.YtbgkfmodbofalaaGreatDoor
