import Derived.Test.YthchjnopgagilaaGreatDoorPA51
namespace Go.Proofs.YthchjnopgagilaaGreatDoor
open Go.ChangeShapes Go.WideShapes Go.ChangeAt Go.WideMaps Go.WideElems Go.RowKit
theorem pagain_two {a b : Bool} (ha : a = true) (hb : b = true) : (a && b) = true := by rw [ha,hb];rfl
theorem pagain_f10 : (Rows.playAgainRow.inPlace == Tryz.prog.inPlace 13) = true := by kernel_rfl
theorem pagain_f11 : (Rows.playAgainRow.unfollowed == Tryz.prog.unfollowed 13) = true := by kernel_rfl
theorem pagain_f12 : (Rows.playAgainRow.recurses == Tryz.prog.recurses 13) = true := by kernel_rfl
theorem pagain_f13 : (Rows.playAgainRow.named == Tryz.prog.varsNamed 13) = true := by kernel_rfl
end Go.Proofs.YthchjnopgagilaaGreatDoor
