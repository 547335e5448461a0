import Derived.Test.YtdljhggillgpfaaGreatDoorSA50
namespace Go.Proofs.YtdljhggillgpfaaGreatDoor
open Go.ChangeShapes Go.WideShapes Go.ChangeAt Go.WideMaps Go.WideElems Go.RowKit
theorem scagain_two {a b : Bool} (ha : a = true) (hb : b = true) : (a && b) = true := by rw [ha,hb];rfl
theorem scagain_f10 : (Rows.scriptAgainRow.inPlace == Tryz.prog.inPlace 4) = true := by kernel_rfl
theorem scagain_f11 : (Rows.scriptAgainRow.unfollowed == Tryz.prog.unfollowed 4) = true := by kernel_rfl
theorem scagain_f12 : (Rows.scriptAgainRow.recurses == Tryz.prog.recurses 4) = true := by kernel_rfl
theorem scagain_f13 : (Rows.scriptAgainRow.named == Tryz.prog.varsNamed 4) = true := by kernel_rfl
end Go.Proofs.YtdljhggillgpfaaGreatDoor
